/-
  Several texts in one.
-/
import Derived.Maps.OwnSet
import Derived.DeepKeys4
import Derived.OrdersHeld
import Derived.Deep.RegionHeld
import Derived.OwnWalk
import Derived.Test.YtfphigmeppdocaaGreatPk5
namespace Go.Proofs.YtfphigmeppdocaaGreat.Q
open Lo (Seq.prog)
inductive Pd (g:Gr) (F:Int -> Int -> Option Int) (pr:Ri -> Int):Int -> Int -> Int -> Prop
 | base {v t p:Int}:F v t=some p -> Pd g F pr v t p
 | wait {v t p:Int}:Pd g F pr v t p -> aliveB (t+1) g.lives v=true -> Pd g F pr v (t+1) p
 | ride {p:Int} {r:Ri}:r∈ridesF g -> Pd g F pr r.2.2.1 r.2.1 p -> Pd g F pr r.2.2.2.1 r.2.2.2.2.1 (p+pr r)
def FOk (g:Gr) (F:Int -> Int -> Option Int) (s0:Int):Prop:=∀v t p,F v t=some p -> 0 <= v /\ aliveB t g.lives v=true /\ s0 <= t
theorem Pd.place {g:Gr} (R:Right g) {F:Int -> Int -> Option Int} {s0:Int} (hF:FOk g F s0) {pr:Ri -> Int} {v t p:Int} (h:Pd g F pr v t p):0 <= v /\ v<g.lives.length /\ aliveB t g.lives v=true /\ 0 <= t /\ t<g.hor /\ s0 <= t:=by
 have key:0 <= v /\ aliveB t g.lives v=true /\ s0 <= t:=by
   induction h with
   | base h=>exact hF _ _ _ h
   | wait _ h ih=>exact ⟨ih.1,h,by omega⟩
   | ride hr _ ih=>have:=mem_rides R hr;have h1:=this.lt;exact ⟨this.b0.1,this.alB,by omega⟩
 have:=alive_hor R key.2.1
 exact ⟨key.1,by omega,key.2.1,this.2.1,this.2.2,key.2.2⟩
abbrev Vs:=Int×Ri
abbrev Mp:=Int -> Int -> Option Vs
def mset (M:Mp) (v t:Int) (x:Vs):Mp:=fun a b=>if a=v /\ b=t then some x else M a b
theorem mset_same (M:Mp) (v t:Int) (x:Vs):mset M v t x v t=some x:=by unfold mset;rw [if_pos ⟨rfl,rfl⟩]
theorem mset_other (M:Mp) {v t a b:Int} (x:Vs) (h:¬(a=v /\ b=t)):mset M v t x a b=M a b:=by unfold mset;rw [if_neg h]
def lessB (o:Option Vs) (p:Int):Bool:=match o with | none=>true | some x=>decide (p<x.1)
def leqB (o:Option Vs) (p:Int):Bool:=match o with | none=>true | some x=>decide (p <= x.1)
def takeM (M:Mp) (r:Ri) (p:Int):Mp:=
 match M r.2.2.1 r.2.1 with
 | none=>M
 | some h=>if lessB (M r.2.2.2.1 r.2.2.2.2.1) (h.1+p)=true then mset M r.2.2.2.1 r.2.2.2.2.1 (h.1+p,r) else M
def waitV (g:Gr) (now:Int) (M:Mp) (v:Int):Mp:=
 match M v (now- 1) with
 | none=>M
 | some x=>if aliveB now g.lives v=true then (if leqB (M v now) x.1=true then mset M v now x else M) else M
def waitM (g:Gr) (now:Int) (M:Mp):Nat -> Mp
 | 0=>M
 | k+1=>waitV g now (waitM g now M k) (k:Int)
structure SpI (g:Gr) (F:Int -> Int -> Option Int) (pr:Ri -> Int) (s0 now dp:Int) (k i:Nat) (M:Mp):Prop where
 snd:∀v t x,M v t=some x -> Pd g F pr v t x.1
 fst:∀v t p,F v t=some p -> ∃x,M v t=some x /\ x.1 <= p
 wt:∀(v t:Int) (x:Vs),(t+1<now \/ (t+1=now /\ v<(k:Int))) -> M v t=some x -> aliveB (t+1) g.lives v=true -> ∃y,M v (t+1)=some y /\ y.1 <= x.1
 rd:∀r∈(ridesF g).take i,∀x,M r.2.2.1 r.2.1=some x -> ∃y,M r.2.2.2.1 r.2.2.2.2.1=some y /\ y.1 <= x.1+pr r
 done:∀r∈(ridesF g).take i,r.2.1 <= dp
 ahead:∀r∈(ridesF g).drop i,now <= r.2.1 \/ r.2.1<s0
 way:∀v t x,M v t=some x -> (∃t0,F v t0=some x.1 /\ t0 <= t) \/ (x.2∈(ridesF g).take i /\ x.2.2.2.2.1=v /\ x.2.2.2.2.2.1 <= t /\ ∃y,M x.2.2.2.1 x.2.2.1=some y /\ y.1+pr x.2=x.1)
theorem SpI.start {g:Gr} {F:Int -> Int -> Option Int} {pr:Ri -> Int} {s0:Int} (hF:FOk g F s0) {M:Mp} (hM:∀v t,(M v t).map (·.1)=F v t):SpI g F pr s0 s0 (s0- 1) 0 0 M:=by
 have e:∀v t x,M v t=some x -> F v t=some x.1:=fun v t x h=>by rw [<- hM,h];rfl
 refine ⟨fun v t x h=> .base (e v t x h),fun v t p h=> ?_,fun v t x h hx _=> ?_,fun r hr=>by simp at hr,fun r hr=>by simp at hr,fun r _=>by omega,fun v t x h=> .inl ⟨t,e v t x h,Int.le_refl _⟩⟩
 · rw [<- hM] at h
   cases hx:M v t with
   | none=>rw [hx] at h;cases h
   | some x=>rw [hx] at h;simp at h;exact ⟨x,rfl,by omega⟩
 · have:=(hF _ _ _ (e v t x hx)).2.2
   omega
theorem SpI.wait {g:Gr} {F:Int -> Int -> Option Int} {pr:Ri -> Int} {s0 now:Int} {k i:Nat} {M:Mp} (h:SpI g F pr s0 now (now- 1) k i M):SpI g F pr s0 now (now- 1) (k+1) i (waitV g now M (k:Int)):=by
 have keep:(∀x,M (k:Int) (now- 1)=some x -> aliveB now g.lives (k:Int)=true -> ∃y,M (k:Int) now=some y /\ y.1 <= x.1) -> SpI g F pr s0 now (now- 1) (k+1) i M:=fun hk=>
   ⟨h.snd,h.fst,fun v t x ht hx ha=>by
       by_cases e:t+1=now /\ v=(k:Int)
       · obtain ⟨e1,rfl⟩:=e
         have e2:t=now- 1:=by omega
         subst e2
         rw [e1] at ha ⊢
         exact hk x hx ha
       · exact h.wt v t x (by omega) hx ha,h.rd,h.done,h.ahead,h.way⟩
 unfold waitV
 cases hx:M (k:Int) (now- 1) with
 | none=>exact keep fun x hx' =>by rw [hx] at hx';cases hx'
 | some x=>
   simp only
   split
   · rename_i ha
     split
     · rename_i hl
       have hPx:=h.snd _ _ _ hx
       have hPn:Pd g F pr (k:Int) now x.1:=by
         have:=hPx.wait (by rw [show now- 1+1=now by omega];exact ha)
         rwa [show now- 1+1=now by omega] at this
       have hle:∀y,M (k:Int) now=some y -> x.1 <= y.1:=fun y hy=>by
         unfold leqB at hl
         rw [hy] at hl
         simpa using hl
       have down:∀a b y,M a b=some y -> ∃z,mset M (k:Int) now x a b=some z /\ z.1 <= y.1:=fun a b y hy=>by
         by_cases e:a=(k:Int) /\ b=now
         · obtain ⟨rfl,rfl⟩:=e
           exact ⟨x,mset_same _ _ _ _,hle y hy⟩
         · exact ⟨y,by rw [mset_other _ _ e];exact hy,Int.le_refl _⟩
       refine ⟨fun v t y hy=> ?_,fun v t p hp=> ?_,fun v t y ht hy ha' => ?_,fun r hr y hy=> ?_,h.done,h.ahead,fun v t y hy=> ?_⟩
       · by_cases e:v=(k:Int) /\ t=now
         · obtain ⟨rfl,rfl⟩:=e
           rw [mset_same] at hy;cases hy;exact hPn
         · rw [mset_other _ _ e] at hy;exact h.snd v t y hy
       · obtain ⟨y,hy,hyp⟩:=h.fst v t p hp
         obtain ⟨z,hz,hzy⟩:=down v t y hy
         exact ⟨z,hz,by omega⟩
       · have e:¬(v=(k:Int) /\ t=now):=by omega
         rw [mset_other _ _ e] at hy
         by_cases e2:t+1=now /\ v=(k:Int)
         · obtain ⟨e1,rfl⟩:=e2
           have e3:t=now- 1:=by omega
           subst e3
           rw [hx] at hy
           cases hy
           rw [e1]
           exact ⟨x,mset_same _ _ _ _,Int.le_refl _⟩
         · obtain ⟨z,hz,hzy⟩:=h.wt v t y (by omega) hy ha'
           obtain ⟨u,hu,huz⟩:=down v (t+1) z hz
           exact ⟨u,hu,by omega⟩
       · have hd:=h.done r hr
         rw [mset_other _ _ (by omega)] at hy
         obtain ⟨z,hz,hzy⟩:=h.rd r hr y hy
         obtain ⟨u,hu,huz⟩:=down _ _ z hz
         exact ⟨u,hu,by omega⟩
       · have old:∀t' y,t' <= t -> M v t' =some y -> (∃t0,F v t0=some y.1 /\ t0 <= t) \/ (y.2∈(ridesF g).take i /\ y.2.2.2.2.1=v /\ y.2.2.2.2.2.1 <= t /\ ∃z,mset M (k:Int) now x y.2.2.2.1 y.2.2.1=some z /\ z.1+pr y.2=y.1):=fun t' y ht' hy=>by
           rcases h.way v t' y hy with ⟨t0,h1,h2⟩ | ⟨h1,h2,h3,z,h4,h5⟩
           · exact .inl ⟨t0,h1,by omega⟩
           · refine .inr ⟨h1,h2,by omega,z,?_,h5⟩
             have hd:=h.done _ h1
             rw [mset_other _ _ (by omega)];exact h4
         by_cases e:v=(k:Int) /\ t=now
         · obtain ⟨rfl,rfl⟩:=e
           rw [mset_same] at hy;cases hy
           exact old _ _ (by omega) hx
         · rw [mset_other _ _ e] at hy
           exact old _ _ (Int.le_refl _) hy
     · rename_i hl
       refine keep fun x' hx' _=> ?_
       rw [hx] at hx';cases hx'
       unfold leqB at hl
       cases hy:M (k:Int) now with
       | none=>rw [hy] at hl;simp at hl
       | some y=>rw [hy] at hl;simp at hl;exact ⟨y,rfl,by omega⟩
   · rename_i ha
     exact keep fun _ _ h=>absurd h ha
theorem SpI.waits {g:Gr} {F:Int -> Int -> Option Int} {pr:Ri -> Int} {s0 now:Int} {i:Nat} {M:Mp} (h:SpI g F pr s0 now (now- 1) 0 i M):∀k,SpI g F pr s0 now (now- 1) k i (waitM g now M k)
 | 0=>h
 | k+1=>(h.waits k).wait
theorem SpI.turn {g:Gr} {F:Int -> Int -> Option Int} {pr:Ri -> Int} {s0 now:Int} {k i:Nat} {M:Mp} (h:SpI g F pr s0 now (now- 1) k i M):SpI g F pr s0 now now k i M:={h with done:=fun r hr=>by have:=h.done r hr;omega }
theorem SpI.take {g:Gr} (R:Right g) {F:Int -> Int -> Option Int} {pr:Ri -> Int} {s0 now:Int} (hF:FOk g F s0) {k i:Nat} {M:Mp} (h:SpI g F pr s0 now now k i M) (hi:i<(ridesF g).length) (hd:(ridesF g)[i].2.1 <= now):
   SpI g F pr s0 now now k (i+1) (takeM M (ridesF g)[i] (pr (ridesF g)[i])):=by
 have hr:(ridesF g)[i]∈ridesF g:=List.getElem_mem hi
 have hok:=mem_rides R hr
 have hahead:=h.ahead (ridesF g)[i] (by rw [List.drop_eq_getElem_cons hi];exact List.mem_cons_self)
 have htk:(ridesF g).take (i+1)=(ridesF g).take i++[(ridesF g)[i]]:=List.take_succ_eq_append_getElem hi
 have hdr:∀q∈(ridesF g).drop (i+1),q∈(ridesF g).drop i:=fun q hq=>by rw [List.drop_eq_getElem_cons hi];exact List.mem_cons_of_mem _ hq
 have hsub:∀q∈(ridesF g).take i,q∈(ridesF g).take (i+1):=fun q hq=>by rw [htk];exact List.mem_append_left _ hq
 obtain ⟨r,hrr⟩:∃r,r=(ridesF g)[i]:=⟨_,rfl⟩
 rw [<- hrr] at hr hok hahead htk hd ⊢
 have hlt:=hok.lt
 have hdone:∀q∈(ridesF g).take (i+1),q.2.1 <= now:=fun q hq=>by
   rw [htk,List.mem_append,List.mem_singleton] at hq
   rcases hq with hq | rfl
   · exact h.done q hq
   · exact hd
 have keep:(∀x,M r.2.2.1 r.2.1=some x -> ∃y,M r.2.2.2.1 r.2.2.2.2.1=some y /\ y.1 <= x.1+pr r) -> SpI g F pr s0 now now k (i+1) M:=fun hk=>
   ⟨h.snd,h.fst,h.wt,fun q hq x hx=>by
       rw [htk,List.mem_append,List.mem_singleton] at hq
       rcases hq with hq | rfl
       · exact h.rd q hq x hx
       · exact hk x hx,hdone,fun q hq=>h.ahead q (hdr q hq),fun v t x hx=>by
       rcases h.way v t x hx with h1 | ⟨h1,h2⟩
       · exact .inl h1
       · exact .inr ⟨hsub _ h1,h2⟩⟩
 unfold takeM
 cases hx:M r.2.2.1 r.2.1 with
 | none=>exact keep fun x hx' =>by rw [hx] at hx';cases hx'
 | some x=>
   simp only
   have hP:=h.snd _ _ _ hx
   have hpl:=hP.place R hF
   have hnow:r.2.1=now:=by omega
   split
   · rename_i hl
     have hle:∀y,M r.2.2.2.1 r.2.2.2.2.1=some y -> x.1+pr r <= y.1:=fun y hy=>by
       unfold lessB at hl
       rw [hy] at hl
       simp at hl
       omega
     have down:∀a b y,M a b=some y -> ∃z,mset M r.2.2.2.1 r.2.2.2.2.1 (x.1+pr r,r) a b=some z /\ z.1 <= y.1:=fun a b y hy=>by
       by_cases e:a=r.2.2.2.1 /\ b=r.2.2.2.2.1
       · obtain ⟨rfl,rfl⟩:=e
         exact ⟨_,mset_same _ _ _ _,hle y hy⟩
       · exact ⟨y,by rw [mset_other _ _ e];exact hy,Int.le_refl _⟩
     refine ⟨fun v t y hy=> ?_,fun v t p hp=> ?_,fun v t y ht hy ha' => ?_,fun q hq y hy=> ?_,hdone,fun q hq=>h.ahead q (hdr q hq),fun v t y hy=> ?_⟩
     · by_cases e:v=r.2.2.2.1 /\ t=r.2.2.2.2.1
       · obtain ⟨rfl,rfl⟩:=e
         rw [mset_same] at hy;cases hy;exact .ride hr hP
       · rw [mset_other _ _ e] at hy;exact h.snd v t y hy
     · obtain ⟨y,hy,hyp⟩:=h.fst v t p hp
       obtain ⟨z,hz,hzy⟩:=down v t y hy
       exact ⟨z,hz,by omega⟩
     · rw [mset_other _ _ (by omega)] at hy
       obtain ⟨z,hz,hzy⟩:=h.wt v t y ht hy ha'
       obtain ⟨u,hu,huz⟩:=down v (t+1) z hz
       exact ⟨u,hu,by omega⟩
     · have hqd:=hdone q hq
       rw [mset_other _ _ (by omega)] at hy
       rw [htk,List.mem_append,List.mem_singleton] at hq
       rcases hq with hq | rfl
       · obtain ⟨z,hz,hzy⟩:=h.rd q hq y hy
         obtain ⟨u,hu,huz⟩:=down _ _ z hz
         exact ⟨u,hu,by omega⟩
       · rw [hx] at hy;cases hy
         exact ⟨_,mset_same _ _ _ _,Int.le_refl _⟩
     · by_cases e:v=r.2.2.2.1 /\ t=r.2.2.2.2.1
       · obtain ⟨rfl,rfl⟩:=e
         rw [mset_same] at hy;cases hy
         refine .inr ⟨by rw [htk];exact List.mem_append_right _ (List.mem_singleton.2 rfl),rfl,Int.le_refl _,x,?_,rfl⟩
         rw [mset_other _ _ (by simp only;omega)];exact hx
       · rw [mset_other _ _ e] at hy
         rcases h.way v t y hy with h1 | ⟨h1,h2,h3,z,h4,h5⟩
         · exact .inl h1
         · refine .inr ⟨hsub _ h1,h2,h3,z,?_,h5⟩
           have hqd:=hdone _ (hsub _ h1)
           rw [mset_other _ _ (by omega)];exact h4
   · rename_i hl
     refine keep fun x' hx' => ?_
     rw [hx] at hx';cases hx'
     unfold lessB at hl
     cases hy:M r.2.2.2.1 r.2.2.2.2.1 with
     | none=>rw [hy] at hl;simp at hl
     | some y=>rw [hy] at hl;simp at hl;exact ⟨y,rfl,by omega⟩
theorem SpI.next {g:Gr} (R:Right g) {F:Int -> Int -> Option Int} {pr:Ri -> Int} {s0 now:Int} (hF:FOk g F s0) {i:Nat} {M:Mp} (h:SpI g F pr s0 now now g.lives.length i M) (hd:∀hi:i<(ridesF g).length,now<(ridesF g)[i].2.1):
   SpI g F pr s0 (now+1) (now+1- 1) 0 i M:=by
 refine {h with wt:=fun v t x ht hx ha=>h.wt v t x ?_ hx ha,done:=fun r hr=>by have:=h.done r hr;omega,ahead:=fun r hr=> ?_ }
 · have:=(h.snd v t x hx).place R hF
   omega
 · by_cases hi:i<(ridesF g).length
   · have hs:(ridesF g).Pairwise fun a b=>a.2.1 <= b.2.1:=ridesTo_sorted g _
     have hs2:=hs.drop (i:=i)
     rw [List.drop_eq_getElem_cons hi] at hs2 hr
     have:=hd hi
     rcases List.mem_cons.1 hr with rfl | hr
     · omega
     · have:=(List.pairwise_cons.1 hs2).1 r hr;omega
   · rw [List.drop_eq_nil_of_le (by omega)] at hr;simp at hr
structure SpE (g:Gr) (F:Int -> Int -> Option Int) (pr:Ri -> Int) (M:Mp):Prop where
 snd:∀v t x,M v t=some x -> Pd g F pr v t x.1
 all:∀v t p,Pd g F pr v t p -> ∃x,M v t=some x /\ x.1 <= p
 way:∀v t x,M v t=some x -> (∃t0,F v t0=some x.1 /\ t0 <= t) \/ (x.2∈ridesF g /\ x.2.2.2.2.1=v /\ x.2.2.2.2.2.1 <= t /\ ∃y,M x.2.2.2.1 x.2.2.1=some y /\ y.1+pr x.2=x.1)
theorem SpI.fin {g:Gr} (R:Right g) {F:Int -> Int -> Option Int} {pr:Ri -> Int} {s0 dp:Int} (hF:FOk g F s0) {i:Nat} {M:Mp} (h:SpI g F pr s0 g.hor dp 0 i M):SpE g F pr M:=by
 refine ⟨h.snd,fun v t p hp=> ?_,fun v t x hx=> ?_⟩
 · induction hp with
   | base hp=>exact h.fst _ _ _ hp
   | @wait v t p hp ha ih=>
     obtain ⟨x,hx,hxp⟩:=ih
     have:=alive_hor R ha
     obtain ⟨y,hy,hyx⟩:=h.wt v t x (by omega) hx ha
     exact ⟨y,hy,by omega⟩
   | @ride p r hr hp ih=>
     obtain ⟨x,hx,hxp⟩:=ih
     have hmem:r∈(ridesF g).take i:=by
       have hr':=hr
       rw [<- List.take_append_drop i (ridesF g),List.mem_append] at hr'
       rcases hr' with h1 | h1
       · exact h1
       · have:=h.ahead r h1
         have h2:=(mem_rides R hr).lt
         have h3:=(mem_rides R hr).hor
         have:=(h.snd _ _ _ hx).place R hF
         omega
     obtain ⟨y,hy,hyx⟩:=h.rd r hmem x hx
     exact ⟨y,hy,by omega⟩
 · rcases h.way v t x hx with h1 | ⟨h1,h2⟩
   · exact .inl h1
   · exact .inr ⟨List.mem_of_mem_take h1,h2⟩
theorem Pd.stay {g:Gr} {F:Int -> Int -> Option Int} {pr:Ri -> Int} {v t p:Int} (h:Pd g F pr v t p) (ha:aliveB t g.lives v=true):∀n:Nat,aliveB (t+n) g.lives v=true -> Pd g F pr v (t+n) p
 | 0,_=>by simpa using h
 | n+1,hn=>by
   have h1:aliveB (t+n) g.lives v=true:=alive_mid ha hn (by omega) (by omega)
   have h2:=(h.stay ha n h1).wait (by rw [show t+(n:Int)+1=t+((n+1:Nat):Int) by omega];exact hn)
   rw [show t+(n:Int)+1=t+((n+1:Nat):Int) by omega] at h2
   exact h2
theorem Pd.waits {g:Gr} (R:Right g) {F:Int -> Int -> Option Int} {s0:Int} (hF:FOk g F s0) {pr:Ri -> Int} {v t t' p:Int} (h:Pd g F pr v t p) (ht:t <= t') (ha:aliveB t' g.lives v=true):Pd g F pr v t' p:=by
 have e:t' =t+((t' -t).toNat:Int):=by omega
 rw [e] at ha ⊢
 exact h.stay (h.place R hF).2.2.1 _ ha
def F1 (v0 t0:Int):Int -> Int -> Option Int:=fun v t=>if v=v0 /\ t=t0 then some 0 else none
theorem F1_ok {g:Gr} {v0 t0:Int} (h0:0 <= v0) (ha:aliveB t0 g.lives v0=true):FOk g (F1 v0 t0) t0:=fun v t p h=>by
 unfold F1 at h
 split at h
 · rename_i e;obtain ⟨rfl,rfl⟩:=e;exact ⟨h0,ha,Int.le_refl _⟩
 · cases h
def Pay (g:Gr) (pr:Ri -> Int) (v0 t0 v t p:Int):Prop:=aliveB t0 g.lives v0=true /\ Pd g (F1 v0 t0) pr v t p
structure LeastIs (g:Gr) (pr:Ri -> Int) (v0 t0:Int) (L:List Int):Prop where
 len:L.length=g.lives.length
 is:∀v:Nat,v<g.lives.length -> L.getD v 0=1099511627776 \/ ∃t,Pay g pr v0 t0 (v:Int) t (L.getD v 0)
 least:∀v:Nat,v<g.lives.length -> ∀t p,Pay g pr v0 t0 (v:Int) t p -> L.getD v 0 <= p
def PrOk (g:Gr) (pr:Ri -> Int):Prop:=∀r∈ridesF g,0 <= pr r /\ pr r <= 1000
theorem Pd.range {g:Gr} (R:Right g) {pr:Ri -> Int} (hpr:PrOk g pr) {v0 t0 v t p:Int} (h0:0 <= v0) (ha:aliveB t0 g.lives v0=true) (h:Pd g (F1 v0 t0) pr v t p):0 <= p /\ p <= 1000*(t-t0):=by
 induction h with
 | @base v t p h=>
   unfold F1 at h
   split at h
   · rename_i e;obtain ⟨rfl,rfl⟩:=e;cases h;omega
   · cases h
 | wait _ _ ih=>omega
 | ride hr _ ih=>have:=hpr _ hr;have:=(mem_rides R hr).lt;omega
theorem Pay.range {g:Gr} (R:Right g) {pr:Ri -> Int} (hpr:PrOk g pr) {v0 t0 v t p:Int} (h0:0 <= v0) (h:Pay g pr v0 t0 v t p):0 <= p /\ p <= 100000:=by
 have h1:=h.2.range R hpr h0 h.1
 have h2:=(h.2.place R (F1_ok h0 h.1)).2.2.2
 have:=R.hor
 have:=(alive_hor R h.1).2
 omega
theorem list_ext_gd {a b:List Int} (h:a.length=b.length) (k:∀v,v<a.length -> a.getD v 0=b.getD v 0):a=b:=by
 apply List.ext_getElem h
 intro v h1 h2
 have:=k v h1
 rw [List.getD_eq_getElem?_getD,List.getD_eq_getElem?_getD,List.getElem?_eq_getElem h1,List.getElem?_eq_getElem h2] at this
 exact this
theorem least_unique {g:Gr} (R:Right g) {pr:Ri -> Int} (hpr:PrOk g pr) {v0 t0:Int} (h0:0 <= v0) {L L' :List Int} (h:LeastIs g pr v0 t0 L) (h' :LeastIs g pr v0 t0 L'):L=L':=by
 refine list_ext_gd (by rw [h.len,h'.len]) fun v hv=> ?_
 rw [h.len] at hv
 rcases h.is v hv with e | ⟨t,e⟩<;>rcases h'.is v hv with e' | ⟨t',e'⟩
 · rw [e,e']
 · have h1:=h.least v hv _ _ e'
   have h2:=(e'.range R hpr h0)
   omega
 · have h1:=h'.least v hv _ _ e
   have h2:=(e.range R hpr h0)
   omega
 · have h1:=h.least v hv _ _ e'
   have h2:=h'.least v hv _ _ e
   omega
def nearB (x:Int):Prop:= -1000000000 <= x /\ x <= 1000000000
def Near (l:List (Int×Int)) (k:Nat):Prop:=∀i,i<k -> nearB (l.getD i (0,0)).1 /\ nearB (l.getD i (0,0)).2
def nearDec (l:List (Int×Int)) (k:Nat):Decidable (Near l k):=by unfold Near nearB;infer_instance
def Form (l:List (Int×Int)) (k:Nat):Prop:=∀i,i<k -> (l.getD i (0,0)).1<(l.getD i (0,0)).2 /\ (0<i -> (l.getD (i- 1) (0,0)).2<(l.getD i (0,0)).1)
def goodDec (l:List (Int×Int)) (k:Nat):Decidable (Near l k /\ Form l k):=by unfold Near Form nearB;infer_instance
def cbs (l:List (Int×Int)):Int:=if 200<l.length then 2 else @ite Int (Near l l.length) (nearDec l l.length) 0 5
def chk (l:List (Int×Int)):Int:=if 200<l.length then 2 else @ite Int (Near l l.length /\ Form l l.length) (goodDec l l.length) 0 5
theorem near_succ {l:List (Int×Int)} {k:Nat} (h:Near l k) (h1:nearB (l.getD k (0,0)).1) (h2:nearB (l.getD k (0,0)).2):Near l (k+1):=by
 intro i hi
 by_cases e:i=k
 · subst e;exact ⟨h1,h2⟩
 · exact h i (by omega)
theorem form_succ {l:List (Int×Int)} {k:Nat} (h:Form l k) (h1:(l.getD k (0,0)).1<(l.getD k (0,0)).2) (h2:0<k -> (l.getD (k- 1) (0,0)).2<(l.getD k (0,0)).1):Form l (k+1):=by
 intro i hi
 by_cases e:i=k
 · subst e;exact ⟨h1,h2⟩
 · exact h i (by omega)
theorem cbs_large {l:List (Int×Int)} (h:200<l.length):cbs l=2:=by simp [cbs,h]
theorem cbs_ok {l:List (Int×Int)} (h:l.length <= 200) (hn:Near l l.length):cbs l=0:=by
 unfold cbs;rw [if_neg (by omega),if_pos hn]
theorem cbs_no {l:List (Int×Int)} {k:Nat} (h:l.length <= 200) (hk:k<l.length) (hn:¬(nearB (l.getD k (0,0)).1 /\ nearB (l.getD k (0,0)).2)):cbs l=5:=by
 unfold cbs;rw [if_neg (by omega),if_neg (fun hh=>hn (hh k hk))]
theorem cbs_cases (l:List (Int×Int)):(cbs l=2 /\ 200<l.length) \/ (cbs l=5 /\ l.length <= 200 /\ ¬Near l l.length) \/ (cbs l=0 /\ l.length <= 200 /\ Near l l.length):=by
 unfold cbs
 by_cases h:200<l.length
 · exact .inl ⟨by rw [if_pos h],h⟩
 · rw [if_neg h]
   by_cases hn:Near l l.length
   · exact .inr (.inr ⟨by rw [if_pos hn],by omega,hn⟩)
   · exact .inr (.inl ⟨by rw [if_neg hn],by omega,hn⟩)
theorem chk_large {l:List (Int×Int)} (h:200<l.length):chk l=2:=by simp [chk,h]
theorem chk_ok {l:List (Int×Int)} (h:l.length <= 200) (hn:Near l l.length) (hf:Form l l.length):chk l=0:=by
 unfold chk;rw [if_neg (by omega),if_pos ⟨hn,hf⟩]
theorem chk_far {l:List (Int×Int)} (h:l.length <= 200) (hn:¬Near l l.length):chk l=5:=by
 unfold chk;rw [if_neg (by omega),if_neg (fun hh=>hn hh.1)]
theorem chk_no {l:List (Int×Int)} {k:Nat} (h:l.length <= 200) (hk:k<l.length) (hn:¬((l.getD k (0,0)).1<(l.getD k (0,0)).2 /\ (0<k -> (l.getD (k- 1) (0,0)).2<(l.getD k (0,0)).1))):chk l=5:=by
 unfold chk;rw [if_neg (by omega),if_neg (fun hh=>hn (hh.2 k hk))]
theorem chk_cases (l:List (Int×Int)):chk l=2 \/ chk l=5 \/ (chk l=0 /\ l.length <= 200 /\ Near l l.length /\ Form l l.length):=by
 unfold chk
 by_cases h:200<l.length
 · exact .inl (by rw [if_pos h])
 · rw [if_neg h]
   by_cases hn:Near l l.length /\ Form l l.length
   · exact .inr (.inr ⟨by rw [if_pos hn],by omega,hn⟩)
   · exact .inr (.inl (by rw [if_neg hn]))
def flat (l:List (Int×Int)):List Int:=l.flatMap fun p=>[p.1,p.2]
theorem flat_cons (p:Int×Int) (l:List (Int×Int)):flat (p::l)=p.1::p.2::flat l:=by simp [flat]
theorem flat_append (a b:List (Int×Int)):flat (a++b)=flat a++flat b:=by simp [flat]
theorem flat_length (l:List (Int×Int)):(flat l).length=2*l.length:=by
 induction l with
 | nil=>rfl
 | cons p l ih=>rw [flat_cons];simp only [List.length_cons,ih];omega
theorem take_succ_get {α:Type} (l:List α) (k:Nat) (hk:k<l.length):l.take (k+1)=l.take k++[l[k]]:=by
 rw [List.take_add_one,List.getElem?_eq_getElem hk];rfl
theorem flat_succ (l:List (Int×Int)) (k:Nat) (hk:k<l.length):flat (l.take (k+1))=flat (l.take k)++[l[k].1,l[k].2]:=by
 rw [take_succ_get l k hk,flat_append];rfl
theorem flat_getD (l:List (Int×Int)) (j:Nat) (h:j<l.length):(flat l)[j*2]? =some (l.getD j (0,0)).1 /\ (flat l)[j*2+1]? =some (l.getD j (0,0)).2:=by
 induction l generalizing j with
 | nil=>simp at h
 | cons p l ih=>
   rw [flat_cons]
   cases j with
   | zero=>exact ⟨rfl,rfl⟩
   | succ j=>
     have:=ih j (by simpa using h)
     rw [show (j+1)*2=j*2+1+1 by omega]
     simpa using this
def cnt (l:List Int) (t:Int):Nat:=l.countP fun x=>decide (x <= t)
theorem cnt_cons (x:Int) (l:List Int) (t:Int):cnt (x::l) t=cnt l t+if x <= t then 1 else 0:=by
 unfold cnt
 rw [List.countP_cons]
 simp
theorem cnt_none {l:List Int} {t:Int} (h:∀x∈l,t<x):cnt l t=0:=by
 unfold cnt
 rw [List.countP_eq_zero]
 intro x hx
 have:=h x hx
 simp;omega
def Stp (A:List Int) (i i' :Nat) (τ:Int):Prop:=(i' =i+1 /\ A[i]? =some τ) \/ (i' =i /\ ∀y∈A.drop i,τ<y)
theorem stp_no {A:List Int} {i:Nat} {τ:Int} (sA:A.Pairwise (·<·)) (h:i<A.length) (e:τ<A[i]):Stp A i i τ:=by
 refine .inr ⟨rfl,fun y hy=> ?_⟩
 have sd:=sA.sublist (List.drop_sublist i A)
 rw [List.drop_eq_getElem_cons h] at hy sd
 rw [List.pairwise_cons] at sd
 simp only [List.mem_cons] at hy
 rcases hy with rfl | hy
 · exact e
 · have:=sd.1 y hy;omega
def has (l:List (Int×Int)) (t:Int):Bool:=l.any fun p=>decide (p.1 <= t)&&decide (t<p.2)
theorem has_nil (t:Int):has [] t=false:=rfl
theorem has_cons (p:Int×Int) (l:List (Int×Int)) (t:Int):has (p::l) t=((decide (p.1 <= t)&&decide (t<p.2))||has l t):=rfl
theorem has_append (a b:List (Int×Int)) (t:Int):has (a++b) t=(has a t||has b t):=by simp [has]
theorem has_take_no {l:List (Int×Int)} {k:Nat} {t:Int} (hk:k<l.length) (h:has (l.take k) t=false) (hn:¬(l[k].1 <= t /\ t<l[k].2)):has (l.take (k+1)) t=false:=by
 rw [take_succ_get l k hk,has_append,h,has_cons,has_nil]
 simp only [Bool.false_or,Bool.or_false,Bool.and_eq_false_iff,decide_eq_false_iff_not]
 omega
theorem has_take_yes {l:List (Int×Int)} {k:Nat} {t:Int} (hk:k<l.length) (h1:l[k].1 <= t) (h2:t<l[k].2):has l t=true:=by
 unfold has
 rw [List.any_eq_true]
 exact ⟨l[k],List.getElem_mem hk,by simp [h1,h2]⟩
def size (l:List (Int×Int)):Int:=(l.map fun p=>p.2-p.1).sum
def Canon (l:List (Int×Int)):Prop:=(flat l).Pairwise (·<·)
def pairs:List Int -> List (Int×Int)
 | x::y::l=>(x,y)::pairs l
 | _=>[]
theorem form_tail {p:Int×Int} {l:List (Int×Int)} (h:Form (p::l) (l.length+1)):Form l l.length:=by
 intro i hi
 have:=h (i+1) (by omega)
 refine ⟨by simpa using this.1,fun h0=> ?_⟩
 have h2:=this.2 (by omega)
 rw [show i+1- 1=(i- 1)+1 by omega] at h2
 simpa using h2
theorem canon_of_form {l:List (Int×Int)} (h:Form l l.length):Canon l:=by
 unfold Canon
 induction l with
 | nil=>exact List.Pairwise.nil
 | cons p l ih=>
   have ih':=ih (form_tail h)
   have h0:=(h 0 (by simp)).1
   simp at h0
   have h1:∀x∈flat l,p.2<x:=by
     cases l with
     | nil=>simp [flat]
     | cons q l=>
       have hq:=(h 1 (by simp)).2 (by omega)
       simp at hq
       rw [flat_cons] at ih' ⊢
       intro x hx
       rw [List.pairwise_cons] at ih'
       simp only [List.mem_cons] at hx
       rcases hx with rfl | hx
       · exact hq
       · have:=ih'.1 x (by simpa using hx);omega
   rw [flat_cons,List.pairwise_cons,List.pairwise_cons]
   refine ⟨fun x hx=> ?_,h1,ih'⟩
   simp only [List.mem_cons] at hx
   rcases hx with rfl | hx
   · exact h0
   · have:=h1 x hx;omega
theorem form_of_canon {l:List (Int×Int)} (h:Canon l):Form l l.length:=by
 unfold Canon at h
 rw [List.pairwise_iff_getElem] at h
 intro i hi
 have hl:=flat_length l
 obtain ⟨f0,f1⟩:=flat_getD l i hi
 obtain ⟨g0,f0⟩:=List.getElem?_eq_some_iff.1 f0
 obtain ⟨g1,f1⟩:=List.getElem?_eq_some_iff.1 f1
 refine ⟨?_,fun h0=> ?_⟩
 · rw [<- f0,<- f1];exact h _ _ g0 g1 (by omega)
 · obtain ⟨_,e1⟩:=flat_getD l (i- 1) (by omega)
   obtain ⟨k1,e1⟩:=List.getElem?_eq_some_iff.1 e1
   rw [<- f0,<- e1]
   exact h _ _ k1 g0 (by omega)
theorem near_flat {l:List (Int×Int)} (h:Near l l.length):∀x∈flat l,nearB x:=by
 induction l with
 | nil=>simp [flat]
 | cons p l ih=>
   have ih':=ih (fun i hi=>by simpa using h (i+1) (by simpa using hi))
   have h0:=h 0 (by simp)
   simp at h0
   rw [flat_cons]
   intro x hx
   simp only [List.mem_cons] at hx
   rcases hx with rfl | rfl | hx
   · exact h0.1
   · exact h0.2
   · exact ih' x hx
theorem near_of_flat {l:List (Int×Int)} (h:∀x∈flat l,nearB x):Near l l.length:=by
 intro i hi
 obtain ⟨f0,f1⟩:=flat_getD l i hi
 exact ⟨h _ (List.mem_of_getElem? f0),h _ (List.mem_of_getElem? f1)⟩
theorem chk_of_canon {l:List (Int×Int)} (hc:Canon l) (hn:∀x∈flat l,nearB x) (hl:l.length <= 200):chk l=0:=
 chk_ok hl (near_of_flat hn) (form_of_canon hc)
open Go.RowKit
def IvAt (w:World) (ao:Option Addr) (l:List (Int×Int)):Prop:=
 l=[] \/ ∃b off,ao=some ⟨b,off,none⟩ /\ b<w.heap.size /\ ∀j,j<l.length -> w.cell? ⟨b,off+j*2,none⟩=some (.int .i64 (l.getD j (0,0)).1) /\ w.cell? ⟨b,off+j*2+1,none⟩=some (.int .i64 (l.getD j (0,0)).2)
def ZsAt (w:World) (ao:Option Addr) (l:List Int):Prop:=
 l=[] \/ ∃b off,ao=some ⟨b,off,none⟩ /\ b<w.heap.size /\ ∀j,j<l.length -> w.cell? ⟨b,off+j,none⟩=some (.int .i64 (l.getD j 0))
theorem IvAt.below {w w' :World} {ao:Option Addr} {l:List (Int×Int)} (h:IvAt w ao l) (hb:Below w.heap.size w w'):IvAt w' ao l:=by
 rcases h with h | ⟨b,off,rfl,hlt,hc⟩
 · exact .inl h
 · refine .inr ⟨b,off,rfl,Nat.lt_of_lt_of_le hlt hb.size,fun j hj=> ?_⟩
   rw [hb.cell (p:=⟨b,off+j*2,none⟩) hlt,hb.cell (p:=⟨b,off+j*2+1,none⟩) hlt]
   exact hc j hj
theorem ZsAt.below {w w' :World} {ao:Option Addr} {l:List Int} (h:ZsAt w ao l) (hb:Below w.heap.size w w'):ZsAt w' ao l:=by
 rcases h with h | ⟨b,off,rfl,hlt,hc⟩
 · exact .inl h
 · refine .inr ⟨b,off,rfl,Nat.lt_of_lt_of_le hlt hb.size,fun j hj=> ?_⟩
   rw [hb.cell (p:=⟨b,off+j,none⟩) hlt]
   exact hc j hj
theorem Tryz.infoInt:(Seq.prog.info? 3).map (fun i=>(i.zero,i.size,i.bytes))=some (some (.int .i64 0),1,8):=by kernel_rfl
theorem Tryz.infoIvl:(Seq.prog.info? 95).map (fun i=>(i.zero,i.size,i.bytes))=some (some (.agg #[.int .i64 0,.int .i64 0]),2,16):=by kernel_rfl
theorem zsAt_of_owns {w:World} {base e:Nat} {v:Value} {n:Nat} {l:List Int} (h:w.ownsRow base e 1 v n (l.map (Value.int .i64))):∃ao cap,v= .slice ao l.length cap /\ ZsAt w ao l:=by
 obtain ⟨h1,h2⟩:=h
 simp only [List.length_map,Nat.mul_one] at h1
 subst h1
 rcases h2 with ⟨rfl,h0⟩ | ⟨g,cap,cur,rfl,hb,hh,h3,h4,h5,h6⟩
 · exact ⟨none,0,by rw [h0],.inl (List.eq_nil_of_length_eq_zero h0)⟩
 · refine ⟨_,cap,rfl,.inr ⟨g,0,rfl,(Array.getElem?_eq_some_iff.1 hh).1,fun j hj=> ?_⟩⟩
   have:=World.ownsRow.cellAt (w:=w) (base:=base) (e:=e) (size:=1) (xs:=l.map (Value.int .i64)) ⟨by simp,.inr ⟨g,cap,cur,rfl,hb,hh,h3,h4,h5,h6⟩⟩ j (by omega)
   rw [Nat.zero_add,this,List.getElem?_map,List.getD_eq_getElem?_getD,List.getElem?_eq_getElem hj]
   rfl
def encs (l:List (Int×Int)):List Value:=(flat l).map (Value.int .i64)
theorem ivAt_of_owns {w:World} {base e:Nat} {v:Value} {n:Nat} {l:List (Int×Int)} (h:w.ownsRow base e 2 v n (encs l)):∃ao cap,v= .slice ao l.length cap /\ IvAt w ao l:=by
 obtain ⟨h1,h2⟩:=h
 simp only [encs,List.length_map,flat_length] at h1
 have hn:n=l.length:=by omega
 subst hn
 rcases h2 with ⟨rfl,h0⟩ | ⟨g,cap,cur,rfl,hb,hh,h3,h4,h5,h6⟩
 · exact ⟨none,0,by rw [h0],.inl (List.eq_nil_of_length_eq_zero h0)⟩
 · have hown:w.ownsRow base e 2 (.slice (some ⟨g,0,none⟩) l.length cap) l.length (encs l):=⟨by simp [encs,flat_length];omega,.inr ⟨g,cap,cur,rfl,hb,hh,h3,h4,h5,h6⟩⟩
   refine ⟨_,cap,rfl,.inr ⟨g,0,rfl,(Array.getElem?_eq_some_iff.1 hh).1,fun j hj=> ?_⟩⟩
   obtain ⟨f0,f1⟩:=flat_getD l j hj
   rw [Nat.zero_add,hown.cellAt (j*2) (by omega),hown.cellAt (j*2+1) (by omega)]
   simp only [encs,List.getElem?_map,f0,f1]
   exact ⟨rfl,rfl⟩
theorem ownsRow_below {w w' :World} {base e size:Nat} {v:Value} {n:Nat} {xs:List Value} (h:w.ownsRow base e size v n xs) (hb:Below w.heap.size w w'):w'.ownsRow base e size v n xs:=
 h.kept (row:=none) ⟨hb.os,hb.tape,hb.output,hb.size,fun k hk _=>hb.block k hk⟩ (by cases v.ownBlock<;>simp)
theorem cells_two_new (w:World) (B:Nat) (t:TypeId) (x y:Value) (hB:B=w.heap.size):∀j u,[x,y][j]? =some u -> (w.alloc (.cells #[x,y] t)).cell? ((⟨B,0,none⟩:Addr).add j)=some u:=by
 subst hB
 intro j u hj
 match j,hj with
 | 0,hj=>simp at hj;subst hj;simp [Addr.add]
 | 1,hj=>simp at hj;subst hj;simp [Addr.add]
theorem owns_base2 {w:World} {base base' e size:Nat} {v:Value} {n:Nat} {xs:List Value} (h:w.ownsRow base e size v n xs) (hb:base' <= base):w.ownsRow base' e size v n xs:=
 ⟨h.1,h.2.imp id (fun ⟨g,c,cur,h1,h2,h3⟩=>⟨g,c,cur,h1,Nat.le_trans hb h2,h3⟩)⟩
theorem gby_of_below {w w' :World} (h:Below w.heap.size w w') (row:Option Nat):w.grownBy w' row:=⟨h.os,h.tape,h.output,h.size,fun k hk _=>h.block k hk⟩
theorem gby_trans {a b c:World} {row:Option Nat} (h:a.grownBy b row) (k:b.grownBy c row):a.grownBy c row:=
 ⟨k.os.trans h.os,k.tape.trans h.tape,k.output.trans h.output,Nat.le_trans h.size k.size,fun i hi hne=>(k.block i (Nat.lt_of_lt_of_le hi h.size) hne).trans (h.block i hi hne)⟩
theorem gby_refl (w:World) (row:Option Nat):w.grownBy w row:=⟨rfl,rfl,rfl,Nat.le_refl _,fun _ _ _=>rfl⟩
theorem gby_setOne (w:World) (b j:Nat) (u:Value):w.grownBy (w.setCell ⟨b,j,none⟩ u) (some b):=
 ⟨rfl,rfl,rfl,by simp [World.setCell],fun k _ hk=>Below.heap_setCell _ _ _ _ (fun e=>hk (by simp [e]))⟩
open Go.RowKit Go.Maps
theorem Tryz.laidOutC:laidOutB Seq.prog=true:=by kernel_rfl
theorem Tryz.rowSt:(122:TypeId)<Seq.prog.types.size:=of_decide_eq_true (by kernel_rfl)
theorem Tryz.wideSt:(match Seq.prog.underlying 122 with | some (.array _ _) | some (.struct _)=>true | _=>false)=true:=by rw [((Seq.pu 122).trans Tryz.underlying122)]
theorem Tryz.keyAtSt:Seq.prog.keyTypeAt 2 122=true:=by kernel_rfl
set_option maxRecDepth 100000 in
theorem Tryz.lawSt:Keyed Seq.prog 122:=Keyed.of_law (deep_law_laid Tryz.laidOutC (m:=2) (by omega) Tryz.rowSt Tryz.keyAtSt Tryz.wideSt)
theorem Tryz.keySt:Seq.prog.keyType 122=true:=by kernel_rfl
theorem Tryz.cellsSt:Seq.prog.cellsOf 122=2:=by kernel_rfl
theorem Tryz.cellsI:Seq.prog.cellsOf 3=1:=by kernel_rfl
def Wi (n:Int):Prop:= -9223372036854775808 <= n /\ n <= 9223372036854775807
theorem wi_wf {n:Int} (h:Wi n):(Lit.int .i64 n).wf=true:=WalkArith.wf_i64 h
def keyV (v t:Int):Value:= .agg #[.int .i64 v,.int .i64 t]
def kOf (v t:Int):Lit:= .string (keyBytes [.int .i64 v,.int .i64 t])
theorem key_of {v t:Int} (hv:Wi v) (ht:Wi t):keyOf Seq.prog 122 (keyV v t)=some (kOf v t):=by
 have w1:=wi_wf hv
 have w2:=wi_wf ht
 obtain ⟨m,hm⟩:∃m,Seq.prog.types.size=m+1:=⟨Seq.prog.types.size- 1,by have:(0:Nat)<Seq.prog.types.size:=Nat.lt_of_le_of_lt (Nat.zero_le _) Tryz.rowSt;omega⟩
 unfold keyOf
 simp only [((Seq.pu 122).trans Tryz.underlying122)]
 rw [if_pos (by rw [Tryz.keySt];kernel_rfl),hm]
 unfold Program.keyLits
 simp only [((Seq.pu 122).trans Tryz.underlying122),Value.cells,keyV]
 rw [if_pos ⟨by rw [Tryz.cellsSt];rfl,by kernel_rfl⟩]
 simp [Program.keyLits,Tryz.cellsI,w1,w2,kOf]
theorem keyV_inj {v t a b:Int} (h:keyV v t=keyV a b):v=a /\ t=b:=by
 unfold keyV at h
 simp at h
 exact h
theorem kOf_ne {v t a b:Int} (hv:Wi v) (ht:Wi t) (ha:Wi a) (hb:Wi b) (h:¬(a=v /\ b=t)):kOf a b≠kOf v t:=fun e=>by
 have h1:=key_of hv ht
 rw [<- e] at h1
 have:=keyV_inj (Tryz.lawSt.inj (key_of ha hb) h1)
 exact h this
def encV (x:Vs):Value:= .agg #[.int .i64 x.1,.int .i64 x.2.1,.int .i64 x.2.2.1,.int .i64 x.2.2.2.1,.int .i64 x.2.2.2.2.1,.int .i64 x.2.2.2.2.2.1,.int .i64 x.2.2.2.2.2.2]
def datV (x:Vs):DataW Unit:= .agg [.lit (.int .i64 x.1),.lit (.int .i64 x.2.1),.lit (.int .i64 x.2.2.1),.lit (.int .i64 x.2.2.2.1),.lit (.int .i64 x.2.2.2.2.1),.lit (.int .i64 x.2.2.2.2.2.1),.lit (.int .i64 x.2.2.2.2.2.2)]
def ofL:List Value -> Option Vs
 | [.int .i64 a,.int .i64 b,.int .i64 c,.int .i64 d,.int .i64 e,.int .i64 f,.int .i64 g]=>some (a,b,c,d,e,f,g)
 | _=>none
def ofV:Value -> Option Vs
 | .agg cs=>ofL cs.toList
 | _=>none
def rdV (v:Value):Option (DataW Unit×List MemPlace):=(ofV v).map fun x=>(datV x,[])
theorem ofL_inv {l:List Value} {x:Vs} (h:ofL l=some x):l=[.int .i64 x.1,.int .i64 x.2.1,.int .i64 x.2.2.1,.int .i64 x.2.2.2.1,.int .i64 x.2.2.2.2.1,.int .i64 x.2.2.2.2.2.1,.int .i64 x.2.2.2.2.2.2]:=by
 unfold ofL at h
 split at h
 · cases h;rfl
 · cases h
theorem ofV_inv {v:Value} {x:Vs} (h:ofV v=some x):v=encV x:=by
 unfold ofV at h
 split at h
 · rename_i cs
   have:=ofL_inv h
   unfold encV
   rw [<- this]
 · cases h
theorem rdV_enc (x:Vs):rdV (encV x)=some (datV x,[]):=rfl
theorem datV_inj {x y:Vs} (h:datV x=datV y):x=y:=by
 obtain ⟨a,b,c,d,e,f,g⟩:=x
 obtain ⟨a',b',c',d',e',f',g'⟩:=y
 simp [datV] at h
 simp [h]
theorem rdV_inv {v:Value} {x:Vs} {ps:List MemPlace} (h:rdV v=some (datV x,ps)):v=encV x:=by
 unfold rdV at h
 cases e:ofV v with
 | none=>rw [e] at h;cases h
 | some y=>
   rw [e] at h
   simp at h
   rw [ofV_inv e,datV_inj h.1]
def MapAt (w:World) (b n:Nat) (M:Mp):Prop:=∃D:DataW Unit,w.ownsMap Seq.prog 122 rdV b n D /\ ∀v t,Wi v -> Wi t -> ∀z,D.atKey (kOf v t) z=match M v t with | none=>z | some x=>datV x
theorem MapAt.mono {w:World} {b n n' :Nat} {M:Mp} (h:MapAt w b n M) (hn:n <= n'):MapAt w b n' M:=by
 obtain ⟨D,h1,h2⟩:=h
 exact ⟨D,h1.mono hn,h2⟩
theorem MapAt.lt {w:World} {b n:Nat} {M:Mp} (h:MapAt w b n M):b<w.heap.size:=by
 obtain ⟨D,h1,h2⟩:=h
 exact h1.lt
theorem MapAt.kept {w w' :World} {b n:Nat} {M:Mp} {row:Option Nat} (h:MapAt w b n M) (hg:w.grownBy w' row) (hne:some b≠row):MapAt w' b n M:=by
 obtain ⟨D,h1,h2⟩:=h
 exact ⟨D,h1.kept hg hne,h2⟩
theorem MapAt.below {w w' :World} {b n:Nat} {M:Mp} (h:MapAt w b n M) (hb:Below w.heap.size w w'):MapAt w' b n M:=h.kept (gby_of_below hb none) (by simp)
theorem MapAt.alloc {w:World} {b n:Nat} {M:Mp} (h:MapAt w b n M) (o:Obj):MapAt (w.alloc o) b n M:=h.below ((Below.refl _ _).alloc (Nat.le_refl _) o)
theorem mapAt_made (w:World):MapAt (w.alloc (.map #[] 0)) w.heap.size 0 (fun _ _=>none):=⟨.map [],World.ownsMap_made _ _ _ _,fun _ _ _ _ _=>rfl⟩
theorem MapAt.look {w:World} {b n:Nat} {M:Mp} (h:MapAt w b n M) {v t:Int} (hv:Wi v) (ht:Wi t):(Instr.lookup 116 (.map (some b)) (keyV v t) true).run Seq.prog w= .ok (.tuple #[encV ((M v t).getD (0,0,0,0,0,0,0)),.bool (M v t).isSome]) w:=by
 obtain ⟨D,h1,h2⟩:=h
 obtain ⟨x,ps,hr,hx⟩:=h1.look_ok Tryz.lawSt ((Seq.pu 116).trans Tryz.underlying116) (z:=encV (0,0,0,0,0,0,0)) ((fun w=>(Seq.zv 119 w).trans (Tryz.zeroValue119 w)) w) (rdV_enc _) (key_of hv ht)
 rw [hr]
 have hk:=h2 v t hv ht
 cases hm:M v t with
 | none=>
   rw [hm] at hk
   have hk:∀z,D.atKey (kOf v t) z=z:=hk
   rw [hk] at hx
   rw [rdV_inv hx,Maps.has_false_of_atKey hk]
   rfl
 | some y=>
   rw [hm] at hk
   have hk:∀z,D.atKey (kOf v t) z=datV y:=hk
   rw [hk] at hx
   rw [rdV_inv hx,Maps.has_true_of_atKey hk]
   rfl
theorem MapAt.store {w:World} {b n:Nat} {M:Mp} (h:MapAt w b n M) (hn:n<maxLen) {v t:Int} (hv:Wi v) (ht:Wi t) (x:Vs):∃w',(Instr.mapUpdate 116 (.map (some b)) (keyV v t) (encV x)).run Seq.prog w= .ok () w' /\ MapAt w' b (n+1) (mset M v t x) /\ w.grownBy w' (some b):=by
 obtain ⟨D,h1,h2⟩:=h
 obtain ⟨w',hr,h3,h4⟩:=h1.update Tryz.lawSt ((Seq.pu 116).trans Tryz.underlying116) hn (key_of hv ht) (rdV_enc x)
 refine ⟨w',hr,⟨_,h3,fun a c ha hc z=> ?_⟩,h4⟩
 by_cases e:a=v /\ c=t
 · obtain ⟨rfl,rfl⟩:=e
   rw [mset_same]
   exact Maps.atKey_put_same h1.isMap (Tryz.lawSt.key (key_of hv ht)) _ _
 · rw [mset_other _ _ e,Maps.atKey_put_other (kOf_ne hv ht ha hc e)]
   exact h2 a c ha hc z
theorem ret_bool {a b:Bool} (h:a=b):Ending.returned (.bool a)= .returned (.bool b):=by rw [h]
theorem ret_int {k:IntKind} {a b:Int} (h:a=b):Ending.returned (.int k a)= .returned (.int k b):=by rw [h]
def nrB (x:Int):Bool:=decide (-1000000000 <= x)&&decide (x <= 1000000000)
theorem nrB_iff (x:Int):nrB x=true↔nearB x:=by unfold nrB nearB;simp only [Bool.and_eq_true,decide_eq_true_eq]
theorem nrB_all_no {l:List Int} {k:Nat} (hk:k<l.length) (h:¬nearB l[k]):l.all nrB=false:=by
 rw [<- Bool.not_eq_true,List.all_eq_true]
 intro hh
 exact h ((nrB_iff _).1 (hh l[k] (List.getElem_mem hk)))
theorem nrB_take_succ {l:List Int} {k:Nat} (hk:k<l.length) (h0:(l.take k).all nrB=true) (h:nearB l[k]):(l.take (k+1)).all nrB=true:=by
 rw [take_succ_get l k hk,List.all_append,h0]
 simp [(nrB_iff _).2 h]
set_option maxHeartbeats 400000 in
theorem Near_any (ao:Option Addr) (cap:Nat) (l:List Int) (w:World) (hl:ZsAt w ao l) (hn:l.length <= 9223372036854775807):
   Calls Seq.prog 86 #[.slice ao l.length cap] w fun e w' =>e= .returned (.bool (l.all nrB)) /\ w' =w:=by
 go_enter Seq.func86,Tryz.ntmps86
 go_wp2
 go_loop [7] (fun i=>∃k:Nat,k <= l.length /\ i= .int .i64 k /\ (l.take k).all nrB=true) (fun i=>l.length-(intOf i).toNat)
 case atStart=>exact ⟨0,Nat.zero_le _,rfl,rfl⟩
 case round=>
   obtain ⟨k,hk,rfl,hh⟩:=hrel
   have HH:Hid ((l.take k).all nrB=true):=hh
   clear hh
   by_cases hlt:k<l.length
   · rcases hl with h0 | ⟨b,off,rfl,hbw,hc⟩
     · subst h0;simp at hlt
     have c0:=hc k hlt
     have hg:l.getD k 0=l[k]:=by simp [List.getD_eq_getElem?_getD,List.getElem?_eq_getElem hlt]
     rw [hg] at c0
     clear hc hg
     by_cases g1:l[k]< -1000000000
     · have HC:Hid (l.all nrB=false):=nrB_all_no hlt (by unfold nearB;omega)
       go_wp2
       go_ret
       exact ⟨ret_bool HC.out.symm,rfl⟩
     · by_cases g2:l[k]>1000000000
       · have HC:Hid (l.all nrB=false):=nrB_all_no hlt (by unfold nearB;omega)
         go_wp2
         go_ret
         exact ⟨ret_bool HC.out.symm,rfl⟩
       · have HC:Hid ((l.take (k+1)).all nrB=true):=nrB_take_succ hlt HH.out (by unfold nearB;omega)
         go_wp2
         go_round
         case rel=>exact ⟨k+1,by omega,by go_num,HC.out⟩
         case measure=>simp [intOf];omega
   · have hkl:k=l.length:=by omega
     subst hkl
     have HC:Hid (l.all nrB=true):=by have:=HH.out;rwa [List.take_length] at this
     go_wp2
     go_ret
     exact ⟨ret_bool HC.out.symm,rfl⟩
theorem Near_two (B:Nat) (x y:Int) (w:World) (hB:B<w.heap.size) (c0:w.cell? ⟨B,0,none⟩=some (.int .i64 x)) (c1:w.cell? ⟨B,1,none⟩=some (.int .i64 y)):
   Calls Seq.prog 86 #[.slice (some ⟨B,0,none⟩) 2 2] w fun e w' =>e= .returned (.bool (nrB x&&nrB y)) /\ w' =w:=by
 have h:=Near_any (some ⟨B,0,none⟩) 2 [x,y] w (.inr ⟨B,0,rfl,hB,fun j hj=>by
   match j,hj with
   | 0,_=>exact c0
   | 1,_=>exact c1⟩) (by simp)
 simpa using h
set_option maxHeartbeats 400000 in
theorem checkBounds_any (ao:Option Addr) (cap:Nat) (l:List (Int×Int)) (w:World) (hl:IvAt w ao l):
   Calls Seq.prog 151 #[.slice ao l.length cap] w fun e w' =>e= .returned (.int .i64 (cbs l)) /\ Below w.heap.size w w':=by
 by_cases h2:200<l.length
 · have HC:Hid (cbs l=2):=cbs_large h2
   go_enter Seq.func151,Tryz.ntmps151
   go_wp2
   go_ret
   exact ⟨ret_int HC.out.symm,Below.refl _ _⟩
 · have h3:l.length <= 200:=by omega
   go_enter Seq.func151,Tryz.ntmps151
   go_wp2
   go_loopw [10] (fun i wr=>∃k:Nat,k <= l.length /\ i= .int .i64 k /\ Near l k /\ Below w.heap.size w wr) (fun i _=>l.length-(intOf i).toNat)
   case atStart=>exact ⟨0,Nat.zero_le _,rfl,fun i hi=>absurd hi (Nat.not_lt_zero _),Below.refl _ _⟩
   case round=>
     obtain ⟨k,hk,rfl,hn,hb⟩:=hrel
     by_cases hlt:k<l.length
     · rcases hl.below hb with h0 | ⟨b,off,rfl,hbw,hc⟩
       · subst h0;simp at hlt
       obtain ⟨c0,c1⟩:=hc k hlt
       have HN:Hid (Near l k):=hn
       have HS:∀o o',Below w.heap.size w ((wr.alloc o).alloc o'):=fun o o' =>(hb.alloc hb.size o).alloc (by have:=hb.size;simp;omega) o'
       have hg:l.getD k (0,0)=l[k]:=by simp [List.getD_eq_getElem?_getD,List.getElem?_eq_getElem hlt]
       rw [hg] at c0 c1
       have HG:Hid (l.getD k (0,0)=l[k]):=hg
       clear hc hn hbw hl hg
       go_wp2_with fail
       refine (Near_two (wr.heap.size+1) l[k].1 l[k].2 _ (by simp) (by simp) (by simp)).mono ?_
       rintro e w1 ⟨rfl,rfl⟩
       by_cases g1:nearB l[k].1 /\ nearB l[k].2
       · have HC:Hid (Near l (k+1)):=near_succ HN.out (by rw [HG.out];exact g1.1) (by rw [HG.out];exact g1.2)
         have e1:=(nrB_iff _).2 g1.1
         have e2:=(nrB_iff _).2 g1.2
         rw [e1,e2]
         clear g1 e1 e2
         go_wp2
         go_roundw
         case rel=>exact ⟨k+1,by omega,by go_num,HC.out,HS _ _⟩
         case measure=>simp [intOf];omega
       · have HC:Hid (cbs l=5):=cbs_no (k:=k) h3 hlt (by rw [HG.out];exact g1)
         have e1:(nrB l[k].1&&nrB l[k].2)=false:=by
           rw [<- Bool.not_eq_true,Bool.and_eq_true,nrB_iff,nrB_iff];exact g1
         rw [e1]
         clear g1 e1
         go_wp2
         go_ret
         exact ⟨ret_int HC.out.symm,HS _ _⟩
     · have hkl:k=l.length:=by omega
       subst hkl
       have HC:Hid (cbs l=0):=cbs_ok h3 hn
       clear hn
       go_wp2
       go_ret
       exact ⟨ret_int HC.out.symm,hb⟩
set_option maxHeartbeats 1000000 in
theorem check_any (ao:Option Addr) (cap:Nat) (l:List (Int×Int)) (w:World) (hl:IvAt w ao l):
   Calls Seq.prog 148 #[.slice ao l.length cap] w fun e w' =>e= .returned (.int .i64 (chk l)) /\ Below w.heap.size w w':=by
 have hcb:=checkBounds_any ao cap l w hl
 rcases cbs_cases l with ⟨e,h2⟩ | ⟨e,h3,hn⟩ | ⟨e,h3,hn⟩
 · rw [e] at hcb
   have HC:Hid (chk l=2):=chk_large h2
   clear e hl
   go_enter Seq.func148,Tryz.ntmps148
   go_wp2_with (go_at_call 151;refine hcb.mono ?_;rintro e w' ⟨rfl,hb⟩)
   go_ret
   exact ⟨ret_int HC.out.symm,by assumption⟩
 · rw [e] at hcb
   have HC:Hid (chk l=5):=chk_far h3 hn
   clear e hl hn
   go_enter Seq.func148,Tryz.ntmps148
   go_wp2_with (go_at_call 151;refine hcb.mono ?_;rintro e w' ⟨rfl,hb⟩)
   go_ret
   exact ⟨ret_int HC.out.symm,by assumption⟩
 · rw [e] at hcb
   have HN:Hid (Near l l.length):=hn
   clear e hn
   go_enter Seq.func148,Tryz.ntmps148
   go_wp2_with (go_at_call 151;refine hcb.mono ?_;rintro e w1 ⟨rfl,hb1⟩)
   go_loopw [4,13] (fun _ i wr=>∃k:Nat,k <= l.length /\ i= .int .i64 k /\ Form l k /\ Below w.heap.size w wr) (fun _ i _=>l.length-(intOf i).toNat)
   case atStart=>exact ⟨0,Nat.zero_le _,rfl,fun i hi=>absurd hi (Nat.not_lt_zero _),by assumption⟩
   case round=>
     obtain ⟨k,hk,rfl,hf,hb⟩:=hrel
     by_cases hlt:k<l.length
     · rcases hl.below hb with h0 | ⟨b,off,rfl,hbw,hc⟩
       · subst h0;simp at hlt
       obtain ⟨c0,c1⟩:=hc k hlt
       have HF:Hid (Form l k):=hf
       have HS:∀o,Below w.heap.size w (wr.alloc o):=fun o=>hb.alloc hb.size o
       have hg:l.getD k (0,0)=l[k]:=by simp [List.getD_eq_getElem?_getD,List.getElem?_eq_getElem hlt]
       by_cases g1:l[k].2 <= l[k].1
       · have HC:Hid (chk l=5):=chk_no (k:=k) h3 hlt (by rw [hg];omega)
         clear hc hf hl hg
         go_wp2
         go_quiet (fail)
         go_wp2
         go_ret
         exact ⟨ret_int HC.out.symm,below_drewN (HS _) _⟩
       · have d1:decide (l[k].2 <= l[k].1)=false:=by simpa using g1
         by_cases hk0:k=0
         · subst hk0
           simp only [Nat.zero_mul,Nat.add_zero] at c0 c1
           have HG:Hid (Form l (0+1)):=form_succ HF.out (by rw [hg];omega) (fun h=>absurd h (Nat.lt_irrefl _))
           clear hc hf hl hg
           go_wp2
           go_quiet (fail)
           go_wp2
           go_roundw
           case rel=>exact ⟨0+1,by omega,by go_num,HG.out,below_drewN (HS _) _⟩
           case measure=>simp [intOf];omega
         · obtain ⟨m,rfl⟩:∃m,k=m+1:=⟨k- 1,by omega⟩
           have cp:=(hc m (by omega)).2
           have hm:m<l.length:=by omega
           have hgm:l.getD m (0,0)=l[m]:=by simp [List.getD_eq_getElem?_getD,List.getElem?_eq_getElem hm]
           by_cases g2:l[m+1].1 <= l[m].2
           · have HC:Hid (chk l=5):=chk_no (k:=m+1) h3 hlt (by rw [hg,Nat.add_sub_cancel,hgm];omega)
             clear hc hf hl hg hgm
             go_wp2
             go_quiet (fail)
             go_wp2
             go_ret
             exact ⟨ret_int HC.out.symm,below_drewN (HS _) _⟩
           · have HG:Hid (Form l (m+1+1)):=form_succ HF.out (by rw [hg];omega) (fun h=>by rw [hg,Nat.add_sub_cancel,hgm];omega)
             have d2:decide (l[m+1].1 <= l[m].2)=false:=by simpa using g2
             clear hc hf hl hg hgm
             go_wp2
             go_quiet (fail)
             go_wp2
             go_roundw
             case rel=>exact ⟨m+1+1,by omega,by go_num,HG.out,below_drewN (HS _) _⟩
             case measure=>simp [intOf];omega
     · have hkl:k=l.length:=by omega
       subst hkl
       have HC:Hid (chk l=0):=chk_ok h3 HN.out hf
       clear hf
       go_wp2
       go_ret
       exact ⟨ret_int HC.out.symm,hb⟩
set_option maxHeartbeats 1000000 in
theorem Has_any (ao:Option Addr) (cap:Nat) (l:List (Int×Int)) (t:Int) (w:World) (hl:IvAt w ao l) (hn:l.length <= 9223372036854775807):
   Calls Seq.prog 24 #[.slice ao l.length cap,.int .i64 t] w fun e w' =>e= .returned (.bool (has l t)) /\ Below w.heap.size w w':=by
 go_enter Seq.func24,Tryz.ntmps24
 go_wp2
 go_loopw [9] (fun i wr=>∃k:Nat,k <= l.length /\ i= .int .i64 k /\ has (l.take k) t=false /\ Below w.heap.size w wr) (fun i _=>l.length-(intOf i).toNat)
 case atStart=>exact ⟨0,Nat.zero_le _,rfl,rfl,Below.refl _ _⟩
 case round=>
   obtain ⟨k,hk,rfl,hh,hb⟩:=hrel
   have HH:Hid (has (l.take k) t=false):=hh
   clear hh
   by_cases hlt:k<l.length
   · rcases hl.below hb with h0 | ⟨b,off,rfl,hbw,hc⟩
     · subst h0;simp at hlt
     obtain ⟨c0,c1⟩:=hc k hlt
     have HS:∀o,Below w.heap.size w (wr.alloc o):=fun o=>hb.alloc hb.size o
     clear hc hl
     by_cases g1:l[k].1 <= t
     · by_cases g2:t<l[k].2
       · have HC:Hid (has l t=true):=has_take_yes hlt g1 g2
         go_wp2
         go_ret
         exact ⟨ret_bool HC.out.symm,HS _⟩
       · have HC:Hid (has (l.take (k+1)) t=false):=has_take_no hlt HH.out (by omega)
         go_wp2
         go_roundw
         case rel=>exact ⟨k+1,by omega,by go_num,HC.out,HS _⟩
         case measure=>simp [intOf];omega
     · have HC:Hid (has (l.take (k+1)) t=false):=has_take_no hlt HH.out (by omega)
       go_wp2
       go_roundw
       case rel=>exact ⟨k+1,by omega,by go_num,HC.out,HS _⟩
       case measure=>simp [intOf];omega
   · have hkl:k=l.length:=by omega
     subst hkl
     have HC:Hid (has l t=false):=by have:=HH.out;rwa [List.take_length] at this
     go_wp2
     go_ret
     exact ⟨ret_bool HC.out.symm,hb⟩
theorem ptg {a b c:World} (h1:Below a.heap.size a b) (h2:Below b.heap.size b c):Below a.heap.size a c:=h1.trans (h2.mono h1.size)
theorem gal (w:World) (o:Obj):Below w.heap.size w (w.alloc o):=(Below.refl _ _).alloc (Nat.le_refl _) o
theorem hideg {p:Prop} (h:p):Hid p:=h
def LgAt (w:World) (ao:Option Addr) (m:List Lg):Prop:=
 m=[] \/ ∃b off,ao=some ⟨b,off,none⟩ /\ b<w.heap.size /\ ∀j,j<m.length -> w.cell? ⟨b,off+j*4,none⟩=some (.int .i64 (m.getD j (0,0,0,0)).1) /\ w.cell? ⟨b,off+j*4+1,none⟩=some (.int .i64 (m.getD j (0,0,0,0)).2.1) /\ w.cell? ⟨b,off+j*4+2,none⟩=some (.int .i64 (m.getD j (0,0,0,0)).2.2.1) /\ w.cell? ⟨b,off+j*4+3,none⟩=some (.int .i64 (m.getD j (0,0,0,0)).2.2.2)
theorem LgAt.below {w w' :World} {ao:Option Addr} {m:List Lg} (h:LgAt w ao m) (hb:Below w.heap.size w w'):LgAt w' ao m:=by
 rcases h with h | ⟨b,off,rfl,hlt,hc⟩
 · exact .inl h
 · refine .inr ⟨b,off,rfl,Nat.lt_of_lt_of_le hlt hb.size,fun j hj=> ?_⟩
   rw [hb.cell (p:=⟨b,off+j*4,none⟩) hlt,hb.cell (p:=⟨b,off+j*4+1,none⟩) hlt,hb.cell (p:=⟨b,off+j*4+2,none⟩) hlt,hb.cell (p:=⟨b,off+j*4+3,none⟩) hlt]
   exact hc j hj
theorem LgAt.get {w:World} {b off:Nat} {m:List Lg} {k:Nat} (hk:k<m.length) (hc:∀j,j<m.length -> w.cell? ⟨b,off+j*4,none⟩=some (.int .i64 (m.getD j (0,0,0,0)).1) /\ w.cell? ⟨b,off+j*4+1,none⟩=some (.int .i64 (m.getD j (0,0,0,0)).2.1) /\ w.cell? ⟨b,off+j*4+2,none⟩=some (.int .i64 (m.getD j (0,0,0,0)).2.2.1) /\ w.cell? ⟨b,off+j*4+3,none⟩=some (.int .i64 (m.getD j (0,0,0,0)).2.2.2)):
   w.cell? ⟨b,off+k*4,none⟩=some (.int .i64 m[k].1) /\ w.cell? ⟨b,off+k*4+1,none⟩=some (.int .i64 m[k].2.1) /\ w.cell? ⟨b,off+k*4+2,none⟩=some (.int .i64 m[k].2.2.1) /\ w.cell? ⟨b,off+k*4+3,none⟩=some (.int .i64 m[k].2.2.2):=by
 have:=hc k hk
 rwa [List.getD_eq_getElem?_getD,List.getElem?_eq_getElem hk] at this
theorem IvAt.get {w:World} {b off:Nat} {m:List (Int×Int)} {k:Nat} (hk:k<m.length) (hc:∀j,j<m.length -> w.cell? ⟨b,off+j*2,none⟩=some (.int .i64 (m.getD j (0,0)).1) /\ w.cell? ⟨b,off+j*2+1,none⟩=some (.int .i64 (m.getD j (0,0)).2)):
   w.cell? ⟨b,off+k*2,none⟩=some (.int .i64 m[k].1) /\ w.cell? ⟨b,off+k*2+1,none⟩=some (.int .i64 m[k].2):=by
 have:=hc k hk
 rwa [List.getD_eq_getElem?_getD,List.getElem?_eq_getElem hk] at this
def EdOne (w:World) (b off:Nat) (e:Ed):Prop:=
 w.cell? ⟨b,off,none⟩=some (.int .i64 e.1) /\ w.cell? ⟨b,off+1,none⟩=some (.int .i64 e.2.1) /\ ∃la lc,w.cell? ⟨b,off+2,none⟩=some (.slice la e.2.2.length lc) /\ LgAt w la e.2.2 /\ e.2.2.length <= lc /\ lc <= 9223372036854775807
def EdAt (w:World) (ao:Option Addr) (m:List Ed):Prop:=
 m=[] \/ ∃b off,ao=some ⟨b,off,none⟩ /\ b<w.heap.size /\ ∀j (h:j<m.length),EdOne w b (off+j*3) m[j]
theorem EdOne.below {w w' :World} {b off:Nat} {e:Ed} (hlt:b<w.heap.size) (h:EdOne w b off e) (hb:Below w.heap.size w w'):EdOne w' b off e:=by
 obtain ⟨h0,h1,la,lc,h2,hl,hn,hm⟩:=h
 exact ⟨by rw [hb.cell (p:=⟨b,off,none⟩) hlt,h0],by rw [hb.cell (p:=⟨b,off+1,none⟩) hlt,h1],la,lc,by rw [hb.cell (p:=⟨b,off+2,none⟩) hlt,h2],hl.below hb,hn,hm⟩
theorem EdAt.below {w w' :World} {ao:Option Addr} {m:List Ed} (h:EdAt w ao m) (hb:Below w.heap.size w w'):EdAt w' ao m:=by
 rcases h with h | ⟨b,off,rfl,hlt,hc⟩
 · exact .inl h
 · exact .inr ⟨b,off,rfl,Nat.lt_of_lt_of_le hlt hb.size,fun j hj=>(hc j hj).below hlt hb⟩
structure GAt (w:World) (la ea:Option Addr) (g:Gr):Prop where
 lv:IvAt w la g.lives
 ed:EdAt w ea g.edges
 nl:g.lives.length <= 9223372036854775807
 ne:g.edges.length <= 9223372036854775807
theorem GAt.below {w w' :World} {la ea:Option Addr} {g:Gr} (h:GAt w la ea g) (hb:Below w.heap.size w w'):GAt w' la ea g:=⟨h.lv.below hb,h.ed.below hb,h.nl,h.ne⟩
theorem Tryz.infoEdge:(Seq.prog.info? 47).map (fun i=>(i.zero,i.size,i.bytes))=some (some (.agg #[.int .i64 0,.int .i64 0,.slice none 0 0]),3,40):=by kernel_rfl
theorem within_any (n lo hi:Int) (w:World):Calls Seq.prog 57 #[.int .i64 n,.int .i64 lo,.int .i64 hi] w fun e w' =>e= .returned (.bool (inR n lo hi)) /\ w' =w:=by
 by_cases g1:lo <= n
 · by_cases g2:n <= hi
   · have HC:=hideg ((inR_iff n lo hi).2 ⟨g1,g2⟩)
     go_enter Seq.func57,Tryz.ntmps57
     go_wp2
     go_ret
     exact ⟨ret_bool HC.out.symm,rfl⟩
   · have HC:=hideg (inR_no (n:=n) (lo:=lo) (hi:=hi) (fun h=>g2 h.2))
     go_enter Seq.func57,Tryz.ntmps57
     go_wp2
     go_ret
     exact ⟨ret_bool HC.out.symm,rfl⟩
 · have HC:=hideg (inR_no (n:=n) (lo:=lo) (hi:=hi) (fun h=>g1 h.1))
   go_enter Seq.func57,Tryz.ntmps57
   go_wp2
   go_ret
   exact ⟨ret_bool HC.out.symm,rfl⟩
theorem span_any (a b h:Int) (w:World):Calls Seq.prog 58 #[.int .i64 a,.int .i64 b,.int .i64 h] w fun e w' =>e= .returned (.bool (spanB a b h)) /\ w' =w:=by
 by_cases g1:0 <= a
 · by_cases g2:a<b
   · by_cases g3:b <= h
     · have HC:=hideg ((spanB_iff a b h).2 ⟨g1,g2,g3⟩)
       go_enter Seq.func58,Tryz.ntmps58
       go_wp2
       go_ret
       exact ⟨ret_bool HC.out.symm,rfl⟩
     · have HC:=hideg (spanB_no (a:=a) (b:=b) (h:=h) (fun k=>g3 k.2.2))
       go_enter Seq.func58,Tryz.ntmps58
       go_wp2
       go_ret
       exact ⟨ret_bool HC.out.symm,rfl⟩
   · have HC:=hideg (spanB_no (a:=a) (b:=b) (h:=h) (fun k=>g2 k.2.1))
     go_enter Seq.func58,Tryz.ntmps58
     go_wp2
     go_ret
     exact ⟨ret_bool HC.out.symm,rfl⟩
 · have HC:=hideg (spanB_no (a:=a) (b:=b) (h:=h) (fun k=>g1 k.1))
   go_enter Seq.func58,Tryz.ntmps58
   go_wp2
   go_ret
   exact ⟨ret_bool HC.out.symm,rfl⟩
set_option maxHeartbeats 1000000 in
theorem fits_any (l:Lg) (h:Int) (w:World):Calls Seq.prog 82 #[.agg #[.int .i64 l.1,.int .i64 l.2.1,.int .i64 l.2.2.1,.int .i64 l.2.2.2],.int .i64 h] w fun e w' =>e= .returned (.bool (fitB l h)) /\ Below w.heap.size w w':=by
 have HB:=hideg (gal w)
 have HF:Hid (fitB l h=(spanB l.1 l.2.1 h&&(inR l.2.2.1 1 50&&inR l.2.2.2 0 1000))):=rfl
 cases e1:spanB l.1 l.2.1 h<;>cases e2:inR l.2.2.1 1 50<;>cases e3:inR l.2.2.2 0 1000<;>rw [e1,e2,e3] at HF
 all_goals
   go_enter Seq.func82,Tryz.ntmps82
   go_wp2_with (first | (go_at_call 58;refine (span_any _ _ _ _).mono ?_;rintro e w' ⟨rfl,rfl⟩) | (go_at_call 57;refine (within_any _ _ _ _).mono ?_;rintro e w' ⟨rfl,rfl⟩))
   go_ret
   exact ⟨ret_bool HF.out.symm,HB.out _⟩
set_option maxRecDepth 100000 in
theorem gHasV_any (h:Int) (la ea:Option Addr) (nl lc ne ec:Nat) (v:Int) (w:World) (hnl:nl <= 12):
   Calls Seq.prog 46 #[.agg #[.int .i64 h,.slice la nl lc,.slice ea ne ec],.int .i64 v] w fun r w' =>r= .returned (.bool (inR v 0 ((nl:Int)- 1))) /\ Below w.heap.size w w':=by
 have HB:=hideg (gal w)
 go_enter Seq.func46,Tryz.ntmps46
 go_wp2_with (go_at_call 57;refine (within_any _ _ _ _).mono ?_;rintro e w' ⟨rfl,rfl⟩)
 go_ret
 exact ⟨rfl,HB.out _⟩
set_option maxRecDepth 100000 in
theorem gHasT_any (h:Int) (la ea:Option Addr) (nl lc ne ec:Nat) (t:Int) (w:World) (h0:1 <= h) (h1:h <= 100):
   Calls Seq.prog 23 #[.agg #[.int .i64 h,.slice la nl lc,.slice ea ne ec],.int .i64 t] w fun r w' =>r= .returned (.bool (inR t 0 (h- 1))) /\ Below w.heap.size w w':=by
 have HB:=hideg (gal w)
 go_enter Seq.func23,Tryz.ntmps23
 go_wp2_with (go_at_call 57;refine (within_any _ _ _ _).mono ?_;rintro e w' ⟨rfl,rfl⟩)
 go_ret
 exact ⟨rfl,HB.out _⟩
theorem edChk_none {h n:Int} {e:Ed} (k:(inR e.1 0 (n- 1)&&inR e.2.1 0 (n- 1))=false):edChk h n e=4:=by unfold edChk;rw [if_pos k]
theorem edChk_large {h n:Int} {e:Ed} (k:(inR e.1 0 (n- 1)&&inR e.2.1 0 (n- 1))=true) (l:6<e.2.2.length):edChk h n e=2:=by unfold edChk;rw [if_neg (by simp [k]),if_pos l]
theorem edChk_legs {h n:Int} {e:Ed} (k:(inR e.1 0 (n- 1)&&inR e.2.1 0 (n- 1))=true) (l:¬6<e.2.2.length):edChk h n e=lgChk h 0 e.2.2:=by unfold edChk;rw [if_neg (by simp [k]),if_neg l]
set_option maxRecDepth 100000 in
set_option maxHeartbeats 4000000 in
theorem checkEdge_any (h:Int) (la ea:Option Addr) (nl lc ne ec:Nat) (e:Ed) (lo:Option Addr) (lcap:Nat) (w:World) (hL:LgAt w lo e.2.2) (hnl:nl <= 12):
   Calls Seq.prog 59 #[.agg #[.int .i64 h,.slice la nl lc,.slice ea ne ec],.agg #[.int .i64 e.1,.int .i64 e.2.1,.slice lo e.2.2.length lcap]] w fun r w' =>r= .returned (.int .i64 (edChk h nl e)) /\ Below w.heap.size w w':=by
 obtain ⟨A,B,legs⟩:=e
 simp only at hL ⊢
 have HB:Hid (∀o o',Below w.heap.size w ((w.alloc o).alloc o')):=fun o o' =>ptg (gal w o) (gal _ o')
 obtain ⟨W2,hW2⟩:∃x,x=(w.alloc (.cells #[.int .i64 h,.slice la nl lc,.slice ea ne ec] 25)).alloc (.cells #[.int .i64 A,.int .i64 B,.slice lo legs.length lcap] 47):=⟨_,rfl⟩
 have HQ2:Hid (∀W,Below (w.heap.size+2) W2 W -> W.cell? ⟨w.heap.size,0,none⟩=some (.int .i64 h) /\ W.cell? ⟨w.heap.size,1,none⟩=some (.slice la nl lc) /\ W.cell? ⟨w.heap.size,2,none⟩=some (.slice ea ne ec) /\ W.cell? ⟨w.heap.size+1,0,none⟩=some (.int .i64 A) /\ W.cell? ⟨w.heap.size+1,1,none⟩=some (.int .i64 B) /\ W.cell? ⟨w.heap.size+1,2,none⟩=some (.slice lo legs.length lcap)):=by
   intro W hb
   refine ⟨?_,?_,?_,?_,?_,?_⟩
   · rw [hb.cell (p:=⟨w.heap.size,0,none⟩) (by simp),hW2];simp
   · rw [hb.cell (p:=⟨w.heap.size,1,none⟩) (by simp),hW2];simp
   · rw [hb.cell (p:=⟨w.heap.size,2,none⟩) (by simp),hW2];simp
   · rw [hb.cell (p:=⟨w.heap.size+1,0,none⟩) (by simp),hW2];simp
   · rw [hb.cell (p:=⟨w.heap.size+1,1,none⟩) (by simp),hW2];simp
   · rw [hb.cell (p:=⟨w.heap.size+1,2,none⟩) (by simp),hW2];simp
 have hs2:W2.heap.size=w.heap.size+2:=by rw [hW2];simp
 have HW:Hid (∀W,Below (w.heap.size+2) W2 W -> Below w.heap.size w W):=fun W hb=>by rw [hW2] at hb;exact (HB.out _ _).trans (hb.mono (by omega))
 have hvA:=fun W=>gHasV_any h la ea nl lc ne ec A W hnl
 have hvB:=fun W=>gHasV_any h la ea nl lc ne ec B W hnl
 have HS2:=hideg hs2
 have hW2s:=hW2.symm
 clear hs2 hW2
 cases e1:inR A 0 ((nl:Int)- 1)
 · have HC:=hideg (edChk_none (h:=h) (n:=nl) (e:=(A,B,legs)) (by simp [e1]))
   rw [e1] at hvA
   have Q:=HQ2.out W2 (Below.refl _ _)
   obtain ⟨q0,q1,q2,q3,q4,q5⟩:=Q
   clear hL hvB e1
   go_enter Seq.func59,Tryz.ntmps59
   go_wp2_with fail
   refine (hvA _).mono ?_
   rintro e w3 ⟨rfl,hb3⟩
   have hbF:=HW.out w3 (by rw [HS2.out] at hb3;exact hb3)
   clear hvA hb3 hW2s q0 q1 q2 q3 q4 q5
   go_wp2
   go_ret
   exact ⟨ret_int HC.out.symm,hbF⟩
 cases e2:inR B 0 ((nl:Int)- 1)
 · have HC:=hideg (edChk_none (h:=h) (n:=nl) (e:=(A,B,legs)) (by simp [e2]))
   rw [e1] at hvA
   rw [e2] at hvB
   obtain ⟨q0,q1,q2,q3,q4,q5⟩:=HQ2.out W2 (Below.refl _ _)
   clear hL e1 e2
   go_enter Seq.func59,Tryz.ntmps59
   go_wp2_with fail
   refine (hvA _).mono ?_
   rintro e w3 ⟨rfl,hb3⟩
   rw [HS2.out] at hb3
   have HB3:=hideg hb3
   clear hvA hb3 hW2s q0 q1 q2 q3 q4 q5
   obtain ⟨q0,q1,q2,q3,q4,q5⟩:=HQ2.out w3 HB3.out
   go_wp2_with fail
   refine (hvB _).mono ?_
   rintro e w4 ⟨rfl,hb4⟩
   have hbF:=HW.out w4 (HB3.out.trans (hb4.mono (by have:=HB3.out.size;have:=HS2.out;omega)))
   clear hvB hb4 q0 q1 q2 q3 q4 q5
   go_wp2
   go_ret
   exact ⟨ret_int HC.out.symm,hbF⟩
 rw [e1] at hvA
 rw [e2] at hvB
 by_cases h6:6<legs.length
 · have HC:=hideg (edChk_large (h:=h) (n:=nl) (e:=(A,B,legs)) (by simp [e1,e2]) h6)
   obtain ⟨q0,q1,q2,q3,q4,q5⟩:=HQ2.out W2 (Below.refl _ _)
   clear hL e1 e2
   go_enter Seq.func59,Tryz.ntmps59
   go_wp2_with fail
   refine (hvA _).mono ?_
   rintro e w3 ⟨rfl,hb3⟩
   rw [HS2.out] at hb3
   have HB3:=hideg hb3
   clear hvA hb3 hW2s q0 q1 q2 q3 q4 q5
   obtain ⟨q0,q1,q2,q3,q4,q5⟩:=HQ2.out w3 HB3.out
   go_wp2_with fail
   refine (hvB _).mono ?_
   rintro e w4 ⟨rfl,hb4⟩
   have HB4:=hideg (HB3.out.trans (hb4.mono (by have:=HB3.out.size;have:=HS2.out;omega)))
   have hbF:=HW.out w4 HB4.out
   clear hvB hb4 q0 q1 q2 q3 q4 q5
   obtain ⟨q0,q1,q2,q3,q4,q5⟩:=HQ2.out w4 HB4.out
   go_wp2
   go_ret
   exact ⟨ret_int HC.out.symm,hbF⟩
 have HC:=hideg (edChk_legs (h:=h) (n:=nl) (e:=(A,B,legs)) (by simp [e1,e2]) h6)
 have h6' :legs.length <= 6:=by omega
 obtain ⟨q0,q1,q2,q3,q4,q5⟩:=HQ2.out W2 (Below.refl _ _)
 clear e1 e2
 go_enter Seq.func59,Tryz.ntmps59
 go_wp2_with fail
 refine (hvA _).mono ?_
 rintro e w3 ⟨rfl,hb3⟩
 rw [HS2.out] at hb3
 have HB3:=hideg hb3
 clear hvA hb3 hW2s q0 q1 q2 q3 q4 q5
 obtain ⟨q0,q1,q2,q3,q4,q5⟩:=HQ2.out w3 HB3.out
 go_wp2_with fail
 refine (hvB _).mono ?_
 rintro e w4 ⟨rfl,hb4⟩
 have HB4:=hideg (HB3.out.trans (hb4.mono (by have:=HB3.out.size;have:=HS2.out;omega)))
 clear hvB hb4 q0 q1 q2 q3 q4 q5
 obtain ⟨q0,q1,q2,q3,q4,q5⟩:=HQ2.out w4 HB4.out
 go_wp2_with fail
 go_loopw [6,26] (fun _ i wr=>∃k:Nat,k <= legs.length /\ i= .int .i64 k /\ lgChk h 0 legs=lgChk h (prevTo legs k) (legs.drop k) /\ Below (w.heap.size+2) W2 wr) (fun _ i _=>legs.length-(intOf i).toNat)
 case atStart=>exact ⟨0,Nat.zero_le _,rfl,rfl,HB4.out⟩
 case round=>
   obtain ⟨k,hk,rfl,hI,hb⟩:=hrel
   have HI:=hideg hI
   clear hI
   have hbw:Below w.heap.size w wr:=HW.out wr hb
   clear q0 q1 q2 q3 q4 q5
   by_cases hlt:k<legs.length
   · have hz:=hb.size
     rw [HS2.out] at hz
     have hz0:w.heap.size<wr.heap.size:=by omega
     have hz1:w.heap.size+1<wr.heap.size:=by omega
     rcases hL.below hbw with h0 | ⟨b,off,rfl,hbr,hc⟩
     · subst h0;simp at hlt
     obtain ⟨c0,c1,c2,c3⟩:=LgAt.get hlt hc
     have q0:wr.cell? ⟨w.heap.size,0,none⟩=some (.int .i64 h):=(HQ2.out wr hb).1
     have HN:Hid (∀o w1,Below (wr.alloc o).heap.size (wr.alloc o) w1 -> Below w.heap.size w w1 /\ Below (w.heap.size+2) W2 w1):=by
       intro o w1 h1
       have:=ptg (gal wr o) h1
       exact ⟨hbw.trans (this.mono hbw.size),hb.trans (this.mono (by omega))⟩
     cases ef:fitB legs[k] h
     · have HR:=hideg (lg_bad hlt HI.out ef)
       clear hc hL
       go_wp2_with (go_at_call 82;refine (fits_any legs[k] _ _).mono ?_;rintro e w1 ⟨rfl,hb1⟩)
       go_ret
       exact ⟨ret_int (by rw [HC.out,HR.out]),(HN.out _ _ hb1).1⟩
     · have hf:=(fitB_iff legs[k] h).1 ef
       by_cases hk0:k=0
       · subst hk0
         simp only [Nat.zero_mul,Nat.add_zero] at c0 c1 c2 c3
         have HR:=hideg (lg_next hlt HI.out ef (by simp only [prevTo];omega))
         clear hc hL hf
         go_wp2_with (go_at_call 82;refine (fits_any legs[0] _ _).mono ?_;rintro e w1 ⟨rfl,hb1⟩)
         go_quiet (fail)
         go_wp2
         go_roundw
         case rel=>exact ⟨0+1,by omega,by go_num,HR.out,below_drewN (HN.out _ _ hb1).2 _⟩
         case measure=>simp [intOf];omega
       · obtain ⟨m,rfl⟩:∃m,k=m+1:=⟨k- 1,by omega⟩
         have hm:m<legs.length:=by omega
         have cp:=(LgAt.get hm hc).2.1
         have HP:=hideg (prevTo_succ hm)
         have q2:wr.cell? ⟨w.heap.size+1,2,none⟩=some (.slice (some ⟨b,off,none⟩) legs.length lcap):=(HQ2.out wr hb).2.2.2.2.2
         have HQ:Hid (∀o w1,Below (wr.alloc o).heap.size (wr.alloc o) w1 -> w1.cell? ⟨w.heap.size+1,2,none⟩=some (.slice (some ⟨b,off,none⟩) legs.length lcap) /\ w1.cell? ⟨b,off+m*4+1,none⟩=some (.int .i64 legs[m].2.1)):=by
           intro o w1 h1
           have:=ptg (gal wr o) h1
           exact ⟨by rw [this.cell (p:=⟨w.heap.size+1,2,none⟩) (by simp;omega),q2],by rw [this.cell (p:=⟨b,off+m*4+1,none⟩) hbr,cp]⟩
         by_cases g:legs[m+1].1<legs[m].2.1
         · have HR:=hideg (lg_form hlt HI.out ef (by rw [HP.out];exact g))
           clear hc hL hf q2 cp
           go_wp2_with (go_at_call 82;refine (fits_any legs[m+1] _ _).mono ?_;rintro e w1 ⟨rfl,hb1⟩)
           have hb2:=hideg hb1
           obtain ⟨d2,dp⟩:=HQ.out _ _ hb2.out
           have d0:w1.cell? ⟨wr.heap.size,0,none⟩=some (.int .i64 legs[m+1].1):=by rw [hb2.out.cell (p:=⟨wr.heap.size,0,none⟩) (by simp)];simp
           go_quiet (fail)
           go_wp2
           go_ret
           exact ⟨ret_int (by rw [HC.out,HR.out]),below_drewN (HN.out _ _ hb2.out).1 _⟩
         · have HR:=hideg (lg_next hlt HI.out ef (by rw [HP.out];exact g))
           have dg:decide (legs[m+1].1<legs[m].2.1)=false:=by simpa using g
           clear hc hL hf q2 cp
           go_wp2_with (go_at_call 82;refine (fits_any legs[m+1] _ _).mono ?_;rintro e w1 ⟨rfl,hb1⟩)
           have hb2:=hideg hb1
           obtain ⟨d2,dp⟩:=HQ.out _ _ hb2.out
           have d0:w1.cell? ⟨wr.heap.size,0,none⟩=some (.int .i64 legs[m+1].1):=by rw [hb2.out.cell (p:=⟨wr.heap.size,0,none⟩) (by simp)];simp
           go_quiet (fail)
           go_wp2
           go_roundw
           case rel=>exact ⟨m+1+1,by omega,by go_num,HR.out,below_drewN (HN.out _ _ hb2.out).2 _⟩
           case measure=>simp [intOf];omega
   · have hkl:k=legs.length:=by omega
     subst hkl
     have HR:=hideg (lg_end HI.out)
     go_wp2
     go_ret
     exact ⟨ret_int (by rw [HC.out,HR.out]),hbw⟩
set_option maxRecDepth 100000 in
set_option maxHeartbeats 4000000 in
theorem gCheck_any (g:Gr) (la ea:Option Addr) (lc ec:Nat) (w:World) (hG:GAt w la ea g):
   Calls Seq.prog 22 #[.agg #[.int .i64 g.hor,.slice la g.lives.length lc,.slice ea g.edges.length ec]] w fun r w' =>r= .returned (.int .i64 (gChk g)) /\ Below w.heap.size w w':=by
 obtain ⟨h,lives,edges⟩:=g
 have HB:=hideg (gal w)
 cases e1:inR h 1 100
 · have HC:=hideg (gChk_hor (g:=⟨h,lives,edges⟩) e1)
   clear hG
   go_enter Seq.func22,Tryz.ntmps22
   go_wp2_with (go_at_call 57;refine (within_any _ _ _ _).mono ?_;rintro e w' ⟨rfl,rfl⟩)
   go_ret
   exact ⟨ret_int HC.out.symm,HB.out _⟩
 by_cases n1:12<lives.length
 · have HC:=hideg (gChk_large (g:=⟨h,lives,edges⟩) e1 (.inl n1))
   clear hG
   go_enter Seq.func22,Tryz.ntmps22
   go_wp2_with (go_at_call 57;refine (within_any _ _ _ _).mono ?_;rintro e w' ⟨rfl,rfl⟩)
   go_ret
   exact ⟨ret_int HC.out.symm,HB.out _⟩
 by_cases n2:30<edges.length
 · have HC:=hideg (gChk_large (g:=⟨h,lives,edges⟩) e1 (.inr n2))
   clear hG
   go_enter Seq.func22,Tryz.ntmps22
   go_wp2_with (go_at_call 57;refine (within_any _ _ _ _).mono ?_;rintro e w' ⟨rfl,rfl⟩)
   go_ret
   exact ⟨ret_int HC.out.symm,HB.out _⟩
 have HL:=hideg (fun k=>gChk_life (g:=⟨h,lives,edges⟩) e1 (by simp only;omega) k)
 have HR:=hideg (fun k=>gChk_rest (g:=⟨h,lives,edges⟩) e1 (by simp only;omega) k)
 have hlv:IvAt w la lives:=hG.lv
 have hed:EdAt w ea edges:=hG.ed
 clear hG
 go_enter Seq.func22,Tryz.ntmps22
 go_wp2_with (go_at_call 57;refine (within_any _ _ _ _).mono ?_;rintro e w' ⟨rfl,rfl⟩)
 go_loopw [25] (fun i wr=>∃k:Nat,k <= lives.length /\ i= .int .i64 k /\ lvChk h lives=lvChk h (lives.drop k) /\ Below (w.heap.size+1) (w.alloc (.cells #[.int .i64 h,.slice la lives.length lc,.slice ea edges.length ec] 25)) wr) (fun i _=>lives.length-(intOf i).toNat)
 case atStart=>exact ⟨0,Nat.zero_le _,rfl,rfl,Below.refl _ _⟩
 case round=>
   obtain ⟨k,hk,rfl,hI,hb⟩:=hrel
   have HI:=hideg hI
   clear hI
   have hbw:Below w.heap.size w wr:=(HB.out _).trans (hb.mono (by omega))
   have hz:=hb.size
   simp only [World.size_alloc] at hz
   have hz0:w.heap.size<wr.heap.size:=by omega
   have q0:wr.cell? ⟨w.heap.size,0,none⟩=some (.int .i64 h):=by rw [hb.cell (p:=⟨w.heap.size,0,none⟩) (by simp)];simp
   have q1:wr.cell? ⟨w.heap.size,1,none⟩=some (.slice la lives.length lc):=by rw [hb.cell (p:=⟨w.heap.size,1,none⟩) (by simp)];simp
   have q2:wr.cell? ⟨w.heap.size,2,none⟩=some (.slice ea edges.length ec):=by rw [hb.cell (p:=⟨w.heap.size,2,none⟩) (by simp)];simp
   by_cases hlt:k<lives.length
   · rcases hlv.below hbw with h0 | ⟨b,off,rfl,hbr,hc⟩
     · subst h0;simp at hlt
     obtain ⟨c0,c1⟩:=IvAt.get hlt hc
     have HN:=hideg (fun o=>(⟨hbw.alloc hbw.size o,hb.alloc (by omega) o⟩:Below w.heap.size w (wr.alloc o) /\ Below (w.heap.size+1) (w.alloc (.cells #[.int .i64 h,.slice (some ⟨b,off,none⟩) lives.length lc,.slice ea edges.length ec] 25)) (wr.alloc o)))
     clear hc hlv hed
     cases ef:spanB lives[k].1 lives[k].2 h
     · have HC:=hideg (lv_stop hlt HI.out ef)
       go_wp2_with (go_at_call 58;refine (span_any _ _ _ _).mono ?_;rintro e w1 ⟨rfl,rfl⟩)
       go_ret
       exact ⟨ret_int (HL.out HC.out).symm,(HN.out _).1⟩
     · have HC:=hideg (lv_next hlt HI.out ef)
       go_wp2_with (go_at_call 58;refine (span_any _ _ _ _).mono ?_;rintro e w1 ⟨rfl,rfl⟩)
       go_roundw
       case rel=>exact ⟨k+1,by omega,by go_num,HC.out,(HN.out _).2⟩
       case measure=>simp [intOf];omega
   · have hkl:k=lives.length:=by omega
     subst hkl
     have HC:=hideg (HR.out (lv_end HI.out))
     have hlv2:=hlv.below hbw
     have hed2:=hed.below hbw
     have HBW:=hideg hbw
     clear hlv hed hbw hb HL HR
     obtain ⟨wo,hwo⟩:∃wo,wo=wr:=⟨_,rfl⟩
     subst hwo
     go_wp2
     go_loopw [7,41] (fun _ i wr=>∃k:Nat,k <= edges.length /\ i= .int .i64 k /\ edsChk h lives.length edges=edsChk h lives.length (edges.drop k) /\ Below wo.heap.size wo wr) (fun _ i _=>edges.length-(intOf i).toNat)
     case atStart=>exact ⟨0,Nat.zero_le _,rfl,rfl,Below.refl _ _⟩
     case round=>
       obtain ⟨k,hk,rfl,hI,hb⟩:=hrel
       have HI:=hideg hI
       clear hI
       have hz:=hb.size
       have hz1:w.heap.size<wr.heap.size:=by omega
       by_cases hlt:k<edges.length
       · rcases hed2.below hb with h0 | ⟨b,off,rfl,hbr,hc⟩
         · subst h0;simp at hlt
         obtain ⟨c0,c1,lo,lcap,c2,hL,_,_⟩:=hc k hlt
         have p0:wr.cell? ⟨w.heap.size,0,none⟩=some (.int .i64 h):=by rw [hb.cell (p:=⟨w.heap.size,0,none⟩) hz0,q0]
         have p2:wr.cell? ⟨w.heap.size,2,none⟩=some (.slice (some ⟨b,off,none⟩) edges.length ec):=by rw [hb.cell (p:=⟨w.heap.size,2,none⟩) hz0,q2]
         have p1:wr.cell? ⟨w.heap.size,1,none⟩=some (.slice la lives.length lc):=by rw [hb.cell (p:=⟨w.heap.size,1,none⟩) hz0,q1]
         have HN:Hid (∀o w1,Below (wr.alloc o).heap.size (wr.alloc o) w1 -> Below wo.heap.size wo w1):=by
           intro o w1 h1
           exact ptg hb (ptg (gal wr o) h1)
         have hcl:=fun o=>checkEdge_any h la (some ⟨b,off,none⟩) lives.length lc edges.length ec edges[k] lo lcap (wr.alloc o) (hL.below (gal wr o)) (by omega)
         clear hc hed2 hlv2 hL q0 q1 q2
         by_cases he:edChk h lives.length edges[k]=0
         · have HC2:=hideg (eds_next hlt HI.out he)
           rw [he] at hcl
           clear he
           go_wp2_with (go_at_call 59;refine (hcl _).mono ?_;rintro e w1 ⟨rfl,hb1⟩)
           go_roundw
           case rel=>exact ⟨k+1,by omega,by go_num,HC2.out,HN.out _ _ hb1⟩
           case measure=>simp [intOf];omega
         · have HC2:=hideg (eds_stop hlt HI.out he)
           have hne:(edChk h lives.length edges[k] !=0)=true:=by simpa using he
           generalize edChk h lives.length edges[k]=ev at*
           go_wp2_with (go_at_call 59;refine (hcl _).mono ?_;rintro e w1 ⟨rfl,hb1⟩)
           go_ret
           exact ⟨ret_int (by rw [HC.out];exact HC2.out.symm),ptg HBW.out (HN.out _ _ hb1)⟩
       · have hkl:k=edges.length:=by omega
         subst hkl
         have HC2:=hideg (eds_end HI.out)
         go_wp2
         go_ret
         exact ⟨ret_int (by rw [HC.out];exact HC2.out.symm),ptg HBW.out hb⟩
theorem mem_take_lt {Z:List Int} {i:Nat} {x:Int} (h:x∈Z.take i):∃j,j<i /\ Z[j]? =some x:=by
 obtain ⟨j,hj,e⟩:=List.getElem_of_mem h
 rw [List.length_take] at hj
 rw [List.getElem_take] at e
 exact ⟨j,by omega,by rw [List.getElem?_eq_getElem (by omega),e]⟩
structure Ordered (A S:List Int):Prop where
 inc:S.Pairwise (·<·)
 mem:∀x,x∈S↔x∈A
 len:S.length <= A.length
def NearP (p:Int×Int×Int):Prop:=nearB p.1 /\ nearB p.2.1 /\ nearB p.2.2
def Fol (a p:Int×Int×Int):Prop:=a.2.1<p.1 \/ (a.2.1=p.1 /\ a.2.2≠p.2.2)
def folB (a p:Int×Int×Int):Bool:=decide (a.2.1<p.1)||(a.2.1==p.1&&a.2.2 !=p.2.2)
theorem folB_iff (a p:Int×Int×Int):folB a p=true↔Fol a p:=by
 unfold folB Fol
 simp only [Bool.or_eq_true,Bool.and_eq_true,decide_eq_true_eq,beq_iff_eq,bne_iff_ne]
def Sound (m:List (Int×Int×Int)) (i:Nat):Prop:=NearP (m.getD i (0,0,0)) /\ (m.getD i (0,0,0)).1<(m.getD i (0,0,0)).2.1 /\ (0<i -> Fol (m.getD (i- 1) (0,0,0)) (m.getD i (0,0,0)))
def MGood (m:List (Int×Int×Int)) (k:Nat):Prop:=∀i,i<k -> Sound m i
def mgoodDec (m:List (Int×Int×Int)) (k:Nat):Decidable (MGood m k):=by unfold MGood Sound NearP Fol nearB;infer_instance
def mchk (m:List (Int×Int×Int)):Int:=if 200<m.length then 2 else @ite Int (MGood m m.length) (mgoodDec m m.length) 0 5
theorem mgood_succ {m:List (Int×Int×Int)} {k:Nat} (h:MGood m k) (h1:Sound m k):MGood m (k+1):=by
 intro i hi
 by_cases e:i=k
 · subst e;exact h1
 · exact h i (by omega)
theorem mchk_large {m:List (Int×Int×Int)} (h:200<m.length):mchk m=2:=by simp [mchk,h]
theorem mchk_ok {m:List (Int×Int×Int)} (h:m.length <= 200) (hn:MGood m m.length):mchk m=0:=by
 unfold mchk;rw [if_neg (by omega),if_pos hn]
theorem mchk_no {m:List (Int×Int×Int)} {k:Nat} (h:m.length <= 200) (hk:k<m.length) (hn:¬Sound m k):mchk m=5:=by
 unfold mchk;rw [if_neg (by omega),if_neg (fun hh=>hn (hh k hk))]
theorem mchk_cases (m:List (Int×Int×Int)):mchk m=2 \/ mchk m=5 \/ (mchk m=0 /\ m.length <= 200 /\ MGood m m.length):=by
 unfold mchk
 by_cases h:200<m.length
 · exact .inl (by rw [if_pos h])
 · rw [if_neg h]
   by_cases hn:MGood m m.length
   · exact .inr (.inr ⟨by rw [if_pos hn],by omega,hn⟩)
   · exact .inr (.inl (by rw [if_neg hn]))
def inP (p:Int×Int×Int) (t:Int):Bool:=decide (p.1 <= t)&&decide (t<p.2.1)
theorem inP_iff (p:Int×Int×Int) (t:Int):inP p t=true↔p.1 <= t /\ t<p.2.1:=by unfold inP;simp only [Bool.and_eq_true,decide_eq_true_eq]
def tel:List (Int×Int×Int) -> Int -> Option Int
 | [],_=>none
 | p::m,t=>if inP p t then some p.2.2 else tel m t
theorem tel_nil (t:Int):tel [] t=none:=rfl
theorem tel_cons (p:Int×Int×Int) (m:List (Int×Int×Int)) (t:Int):tel (p::m) t=if inP p t then some p.2.2 else tel m t:=rfl
theorem tel_append (a b:List (Int×Int×Int)) (t:Int):tel (a++b) t=(tel a t).or (tel b t):=by
 induction a with
 | nil=>rfl
 | cons p a ih=>
   rw [List.cons_append,tel_cons,tel_cons,ih]
   split<;>rfl
theorem tel_take_no {m:List (Int×Int×Int)} {k:Nat} {t:Int} (hk:k<m.length) (h:tel (m.take k) t=none) (hn:inP m[k] t=false):tel (m.take (k+1)) t=none:=by
 rw [take_succ_get m k hk,tel_append,h,tel_cons,hn];rfl
theorem tel_take_yes {m:List (Int×Int×Int)} {k:Nat} {t:Int} (hk:k<m.length) (h:tel (m.take k) t=none) (hn:inP m[k] t=true):tel m t=some m[k].2.2:=by
 have e:m=m.take k++m[k]::m.drop (k+1):=by rw [List.getElem_cons_drop,List.take_append_drop]
 have e2:tel m t=tel (m.take k++m[k]::m.drop (k+1)) t:=congrArg (tel · t) e
 rw [e2,tel_append,h,tel_cons,hn];rfl
theorem tel_mem {m:List (Int×Int×Int)} {t v:Int} (h:tel m t=some v):∃p∈m,inP p t=true /\ p.2.2=v:=by
 induction m with
 | nil=>cases h
 | cons p m ih=>
   rw [tel_cons] at h
   split at h
   · rename_i hp;cases h;exact ⟨p,by simp,hp,rfl⟩
   · obtain ⟨q,hq,h1⟩:=ih h
     exact ⟨q,by simp [hq],h1⟩
theorem tel_none {m:List (Int×Int×Int)} {t:Int} (h:∀p∈m,inP p t=false):tel m t=none:=by
 induction m with
 | nil=>rfl
 | cons p m ih=>
   rw [tel_cons,h p (by simp),ih fun q hq=>h q (by simp [hq])];rfl
def MCan:List (Int×Int×Int) -> Prop
 | []=>True
 | p::m=>p.1<p.2.1 /\ (∀q,m.head? =some q -> Fol p q) /\ MCan m
theorem mcan_low {p:Int×Int×Int} {m:List (Int×Int×Int)} (h:MCan (p::m)):∀q∈m,p.2.1 <= q.1:=by
 induction m generalizing p with
 | nil=>intro q hq;cases hq
 | cons r m ih=>
   intro q hq
   obtain ⟨h1,h2,h3⟩:=h
   have h4:=h2 r rfl
   have h5:=h3.1
   rcases List.mem_cons.1 hq with e | hq
   · subst e;rcases h4 with h4 | h4
     · omega
     · omega
   · have:=ih h3 q hq
     rcases h4 with h4 | h4<;>omega
theorem mcan_pos {m:List (Int×Int×Int)} (h:MCan m):∀q∈m,q.1<q.2.1:=by
 induction m with
 | nil=>intro q hq;cases hq
 | cons r m ih=>
   intro q hq
   rcases List.mem_cons.1 hq with e | hq
   · subst e;exact h.1
   · exact ih h.2.2 q hq
theorem tel_before {m:List (Int×Int×Int)} {t:Int} (h:∀q∈m,t<q.1):tel m t=none:=
 tel_none fun p hp=>by have:=h p hp;unfold inP;simp only [Bool.and_eq_false_iff,decide_eq_false_iff_not];omega
theorem tel_first {p:Int×Int×Int} {m:List (Int×Int×Int)} {t:Int} (h1:p.1 <= t) (h2:t<p.2.1):tel (p::m) t=some p.2.2:=by
 rw [tel_cons,if_pos ((inP_iff p t).2 ⟨h1,h2⟩)]
theorem tel_later {p:Int×Int×Int} {m:List (Int×Int×Int)} {t:Int} (h:p.2.1 <= t):tel (p::m) t=tel m t:=by
 rw [tel_cons,if_neg (fun hh=>by have:=(inP_iff p t).1 hh;omega)]
theorem mcan_end {p q:Int×Int×Int} {a b:List (Int×Int×Int)} (ha:MCan (p::a)) (_hb:MCan (q::b)) (h:∀t,tel (p::a) t=tel (q::b) t) (h1:p.1=q.1) (h2:p.2.2=q.2.2) (hlt:p.2.1<q.2.1):False:=by
 have hp:=ha.1
 have e:=h p.2.1
 rw [tel_later (Int.le_refl _),tel_first (p:=q) (by omega) hlt] at e
 cases a with
 | nil=>cases e
 | cons r a=>
   have hf:=ha.2.1 r rfl
   have hr:=ha.2.2.1
   rcases hf with hf | ⟨hf,hv⟩
   · rw [tel_before (fun s hs=> ?_)] at e
     · cases e
     · rcases List.mem_cons.1 hs with e' | hs
       · subst e';exact hf
       · have:=mcan_low ha.2.2 s hs;omega
   · rw [tel_first (p:=r) (by omega) (by omega),Option.some.injEq] at e
     exact hv (by omega)
theorem mcan_unique {a b:List (Int×Int×Int)} (ha:MCan a) (hb:MCan b) (h:∀t,tel a t=tel b t):a=b:=by
 induction a generalizing b with
 | nil=>
   cases b with
   | nil=>rfl
   | cons q b=>
     have:=h q.1
     rw [tel_first (Int.le_refl _) hb.1] at this
     cases this
 | cons p a ih=>
   cases b with
   | nil=>
     have:=h p.1
     rw [tel_first (Int.le_refl _) ha.1] at this
     cases this
   | cons q b=>
     have hp:=ha.1
     have hq:=hb.1
     have la:=mcan_low ha
     have lb:=mcan_low hb
     have h1:p.1=q.1:=by
       rcases Int.lt_trichotomy p.1 q.1 with hc | hc | hc
       · have:=h p.1
         rw [tel_first (Int.le_refl _) hp,tel_before (fun s hs=> ?_)] at this
         · cases this
         · rcases List.mem_cons.1 hs with e | hs
           · subst e;exact hc
           · have:=lb s hs;omega
       · exact hc
       · have:=h q.1
         rw [tel_first (p:=q) (Int.le_refl _) hq,tel_before (fun s hs=> ?_)] at this
         · cases this
         · rcases List.mem_cons.1 hs with e | hs
           · subst e;exact hc
           · have:=la s hs;omega
     have h2:p.2.2=q.2.2:=by
       have:=h p.1
       rw [tel_first (Int.le_refl _) hp,tel_first (p:=q) (by omega) (by omega),Option.some.injEq] at this
       exact this
     have h3:p.2.1=q.2.1:=by
       rcases Int.lt_trichotomy p.2.1 q.2.1 with hc | hc | hc
       · exact (mcan_end ha hb h h1 h2 hc).elim
       · exact hc
       · exact (mcan_end hb ha (fun t=>(h t).symm) h1.symm h2.symm hc).elim
     have e:p=q:=Prod.ext h1 (Prod.ext h3 h2)
     subst e
     rw [ih ha.2.2 hb.2.2 fun t=> ?_]
     by_cases ht:p.2.1 <= t
     · have:=h t
       rwa [tel_later ht,tel_later ht] at this
     · rw [tel_before (fun s hs=>by have:=la s hs;omega),tel_before (fun s hs=>by have:=lb s hs;omega)]
theorem mcan_snoc {o:List (Int×Int×Int)} {p:Int×Int×Int}:MCan (o++[p])↔MCan o /\ p.1<p.2.1 /\ ∀q,o.getLast? =some q -> Fol q p:=by
 induction o with
 | nil=>simp [MCan]
 | cons r o ih=>
   rw [List.cons_append,MCan,MCan,ih]
   cases o with
   | nil=>simp [MCan,and_comm]
   | cons s o=>
     simp only [List.cons_append,List.head?_cons,List.getLast?_cons_cons]
     constructor
     · rintro ⟨h1,h2,h3,h4,h5⟩;exact ⟨⟨h1,h2,h3⟩,h4,h5⟩
     · rintro ⟨⟨h1,h2,h3⟩,h4,h5⟩;exact ⟨h1,h2,h3,h4,h5⟩
theorem mcan_take_of_good {m:List (Int×Int×Int)} (h:MGood m m.length) (k:Nat) (hk:k <= m.length):MCan (m.take k):=by
 induction k with
 | zero=>simp [MCan]
 | succ k ih=>
   have hlt:k<m.length:=by omega
   have hs:=h k hlt
   have hg:m.getD k (0,0,0)=m[k]:=by simp [List.getD_eq_getElem?_getD,List.getElem?_eq_getElem hlt]
   rw [take_succ_get m k hlt,mcan_snoc]
   refine ⟨ih (by omega),by have:=hs.2.1;rwa [hg] at this,fun q hq=> ?_⟩
   have h0:0<k:=by
     rcases Nat.eq_zero_or_pos k with e | e
     · subst e;simp at hq
     · exact e
   have h2:=hs.2.2 h0
   rw [hg] at h2
   rw [List.getLast?_eq_getElem?,List.length_take,Nat.min_eq_left (by omega),List.getElem?_take_of_lt (by omega),List.getElem?_eq_getElem (by omega)] at hq
   cases hq
   rw [List.getD_eq_getElem?_getD,List.getElem?_eq_getElem (by omega)] at h2
   exact h2
theorem mcan_of_good {m:List (Int×Int×Int)} (h:MGood m m.length):MCan m:=by
 have:=mcan_take_of_good h m.length (Nat.le_refl _)
 rwa [List.take_length] at this
theorem near_of_good {m:List (Int×Int×Int)} (h:MGood m m.length):∀p∈m,NearP p:=by
 intro p hp
 obtain ⟨j,hj,rfl⟩:=List.getElem_of_mem hp
 have:=(h j hj).1
 rwa [List.getD_eq_getElem?_getD,List.getElem?_eq_getElem hj] at this
theorem good_of_mcan {m:List (Int×Int×Int)} (hc:MCan m) (hn:∀p∈m,NearP p):MGood m m.length:=by
 intro i hi
 have hg:m.getD i (0,0,0)=m[i]:=by simp [List.getD_eq_getElem?_getD,List.getElem?_eq_getElem hi]
 unfold Sound
 rw [hg]
 refine ⟨hn _ (List.getElem_mem hi),mcan_pos hc _ (List.getElem_mem hi),fun h0=> ?_⟩
 obtain ⟨j,rfl⟩:∃j,i=j+1:=⟨i- 1,by omega⟩
 have e:m=m.take (j+1)++m[j+1]::m.drop (j+1+1):=by rw [List.getElem_cons_drop,List.take_append_drop]
 have key:∀(o r:List (Int×Int×Int)) (p:Int×Int×Int),MCan (o++p::r) -> ∀q,o.getLast? =some q -> Fol q p:=by
   intro o
   induction o with
   | nil=>intro r p _ q hq;simp at hq
   | cons s o ih=>
     intro r p hm q hq
     rw [List.cons_append] at hm
     cases o with
     | nil=>simp at hq;subst hq;exact hm.2.1 p rfl
     | cons u o=>exact ih r p hm.2.2 q (by simpa using hq)
 have hc':=hc
 rw [e] at hc'
 refine key _ _ _ hc' _ ?_
 rw [List.getLast?_eq_getElem?,List.length_take,Nat.min_eq_left (by omega),List.getElem?_take_of_lt (by omega),Nat.add_sub_cancel,List.getD_eq_getElem?_getD,List.getElem?_eq_getElem (by omega)]
 rfl
theorem mchk_of_mcan {m:List (Int×Int×Int)} (hc:MCan m) (hn:∀p∈m,NearP p) (hl:m.length <= 200):mchk m=0:=mchk_ok hl (good_of_mcan hc hn)
def turnsOf (m:List (Int×Int×Int)):List Int:=m.flatMap fun p=>[p.1,p.2.1]
theorem turnsOf_length (m:List (Int×Int×Int)):(turnsOf m).length=2*m.length:=by
 induction m with
 | nil=>rfl
 | cons p m ih=>simp only [turnsOf,List.flatMap_cons,List.length_append,List.length_cons,List.length_nil] at ih ⊢;omega
theorem turnsOf_succ (m:List (Int×Int×Int)) (k:Nat) (hk:k<m.length):turnsOf (m.take (k+1))=turnsOf (m.take k)++[m[k].1,m[k].2.1]:=by
 rw [take_succ_get m k hk];unfold turnsOf;rw [List.flatMap_append];rfl
theorem turnsOf_mem {m:List (Int×Int×Int)} {x:Int} (h:x∈turnsOf m):∃p∈m,x=p.1 \/ x=p.2.1:=by
 unfold turnsOf at h
 rw [List.mem_flatMap] at h
 obtain ⟨p,hp,hx⟩:=h
 simp at hx
 exact ⟨p,hp,hx⟩
theorem mem_turnsOf {m:List (Int×Int×Int)} {p:Int×Int×Int} (h:p∈m):p.1∈turnsOf m /\ p.2.1∈turnsOf m:=by
 unfold turnsOf
 exact ⟨List.mem_flatMap.2 ⟨p,h,by simp⟩,List.mem_flatMap.2 ⟨p,h,by simp⟩⟩
def mseg (S:List Int) (f:Int -> Option Int) (i:Nat) (t:Int):Option Int:=(List.range i).findSome? fun k=>if S.getD k 0 <= t /\ t<S.getD (k+1) 0 then f (S.getD k 0) else none
theorem mseg_succ (S:List Int) (f:Int -> Option Int) (i:Nat) (t:Int):mseg S f (i+1) t=(mseg S f i t).or (if S.getD i 0 <= t /\ t<S.getD (i+1) 0 then f (S.getD i 0) else none):=by
 unfold mseg
 rw [List.range_succ,List.findSome?_append]
 congr 1
 simp only [List.findSome?_cons,List.findSome?_nil]
 split<;>simp_all
structure Tl (S:List Int) (f:Int -> Option Int) (i:Nat) (out:List (Int×Int×Int)):Prop where
 canon:MCan out
 pts:∀t,tel out t=mseg S f i t
 last:∀q,out.getLast? =some q -> ∃j,j <= i /\ S[j]? =some q.2.1
 len:out.length <= i
 mem:∀q∈out,q.1∈S /\ q.2.1∈S /\ ∃s∈S,f s=some q.2.2
theorem tl_start (S:List Int) (f:Int -> Option Int):Tl S f 0 []:=
 ⟨trivial,fun _=>rfl,fun q h=>by simp at h,Nat.le_refl _,fun x h=>by simp at h⟩
theorem getD_get' {S:List Int} {i:Nat} (h:i<S.length):S.getD i 0=S[i]:=by simp [List.getD_eq_getElem?_getD,h]
theorem tl_skip {S:List Int} {f:Int -> Option Int} {i:Nat} {out:List (Int×Int×Int)} (hi:i+1<S.length) (T:Tl S f i out) (hp:f S[i]=none):Tl S f (i+1) out:=by
 refine ⟨T.canon,fun t=> ?_,fun q h=> ?_,by have:=T.len;omega,T.mem⟩
 · rw [mseg_succ,getD_get' (by omega),hp,T.pts];simp
 · obtain ⟨j,hj,e⟩:=T.last q h
   exact ⟨j,by omega,e⟩
theorem tl_last_le {S:List Int} {f:Int -> Option Int} {i:Nat} {out:List (Int×Int×Int)} (hi:i+1<S.length) (hS:S.Pairwise (·<·)) (T:Tl S f i out) {q:Int×Int×Int} (h:out.getLast? =some q):q.2.1 <= S[i]:=by
 rw [List.pairwise_iff_getElem] at hS
 obtain ⟨j,hj,ej⟩:=T.last q h
 obtain ⟨hjl,ej⟩:=List.getElem?_eq_some_iff.1 ej
 by_cases hji:j=i
 · subst hji;omega
 · have:=hS j i hjl (by omega) (by omega);omega
theorem tl_put {S:List Int} {f:Int -> Option Int} {i:Nat} {v:Int} {out:List (Int×Int×Int)} (hi:i+1<S.length) (hS:S.Pairwise (·<·)) (T:Tl S f i out) (hp:f S[i]=some v) (hn:∀q,out.getLast? =some q -> Fol q (S[i],S[i+1],v)):Tl S f (i+1) (out++[(S[i],S[i+1],v)]):=by
 have hS':=hS
 rw [List.pairwise_iff_getElem] at hS'
 have h01:=hS' i (i+1) (by omega) hi (by omega)
 refine ⟨?_,fun t=> ?_,fun q h=> ?_,?_,fun x hx=> ?_⟩
 · rw [mcan_snoc]
   exact ⟨T.canon,h01,hn⟩
 · rw [mseg_succ,tel_append,T.pts,getD_get' (by omega:i<S.length),getD_get' hi,hp,tel_cons,tel_nil]
   congr 1
   simp only [inP,Bool.and_eq_true,decide_eq_true_eq]
 · simp at h
   subst h
   exact ⟨i+1,Nat.le_refl _,List.getElem?_eq_getElem hi⟩
 · have:=T.len;simp only [List.length_append,List.length_singleton];omega
 · rw [List.mem_append] at hx
   rcases hx with hx | hx
   · exact T.mem x hx
   · simp only [List.mem_singleton] at hx
     subst hx
     exact ⟨List.getElem_mem _,List.getElem_mem _,S[i],List.getElem_mem _,hp⟩
theorem tl_more {S:List Int} {f:Int -> Option Int} {i:Nat} {v:Int} {o:List (Int×Int×Int)} {q:Int×Int×Int} (hi:i+1<S.length) (hS:S.Pairwise (·<·)) (T:Tl S f i (o++[q])) (hp:f S[i]=some v) (hn:q.2.1=S[i]) (hv:q.2.2=v):Tl S f (i+1) (o++[(q.1,S[i+1],q.2.2)]):=by
 rw [List.pairwise_iff_getElem] at hS
 have h01:=hS i (i+1) (by omega) hi (by omega)
 have hc:=T.canon
 rw [mcan_snoc] at hc
 have hqq:=hc.2.1
 refine ⟨?_,fun t=> ?_,fun r h=> ?_,?_,fun x hx=> ?_⟩
 · rw [mcan_snoc]
   exact ⟨hc.1,by simp only;omega,fun r hr=>hc.2.2 r hr⟩
 · rw [mseg_succ,tel_append,<- T.pts,tel_append,getD_get' (by omega:i<S.length),getD_get' hi,hp,Option.or_assoc]
   congr 1
   rw [tel_cons,tel_cons,tel_nil]
   by_cases h1:inP q t=true
   · have h2:inP (q.1,S[i+1],q.2.2) t=true:=by rw [inP_iff] at h1 ⊢;simp only;omega
     rw [if_pos h1,if_pos h2];rfl
   · rw [if_neg h1]
     by_cases h2:inP (q.1,S[i+1],q.2.2) t=true
     · rw [if_pos h2,if_pos (by rw [inP_iff] at h1 h2;simp only at h2;omega),<- hv];rfl
     · rw [if_neg h2,if_neg (by rw [inP_iff] at h1 h2;simp only at h2;omega)];rfl
 · simp at h
   subst h
   exact ⟨i+1,Nat.le_refl _,List.getElem?_eq_getElem hi⟩
 · have:=T.len;simp only [List.length_append,List.length_singleton] at this ⊢;omega
 · have hm:=T.mem
   rw [List.mem_append] at hx
   rcases hx with hx | hx
   · exact hm x (by simp [hx])
   · simp only [List.mem_singleton] at hx
     subst hx
     have:=hm q (by simp)
     exact ⟨this.1,List.getElem_mem _,this.2.2⟩
def MapIs (A:List Int) (f:Int -> Option Int) (n:Int) (r:List (Int×Int×Int)):Prop:=
 ∃S out,Ordered A S /\ Tl S f (S.length- 1) out /\ ((¬(∀q∈out,NearP q) /\ n=5 /\ r=[]) \/ ((∀q∈out,NearP q) /\ 200<out.length /\ n=2 /\ r=[]) \/ ((∀q∈out,NearP q) /\ out.length <= 200 /\ n=0 /\ r=out))
theorem ptw {a b c:World} (h1:Below a.heap.size a b) (h2:Below b.heap.size b c):Below a.heap.size a c:=h1.trans (h2.mono h1.size)
theorem pal (w:World) (o:Obj):Below w.heap.size w (w.alloc o):=(Below.refl _ _).alloc (Nat.le_refl _) o
def PcAt (w:World) (ao:Option Addr) (m:List (Int×Int×Int)):Prop:=
 m=[] \/ ∃b off,ao=some ⟨b,off,none⟩ /\ b<w.heap.size /\ ∀j,j<m.length -> w.cell? ⟨b,off+j*3,none⟩=some (.int .i64 (m.getD j (0,0,0)).1) /\ w.cell? ⟨b,off+j*3+1,none⟩=some (.int .i64 (m.getD j (0,0,0)).2.1) /\ w.cell? ⟨b,off+j*3+2,none⟩=some (.int .i64 (m.getD j (0,0,0)).2.2)
theorem PcAt.below {w w' :World} {ao:Option Addr} {m:List (Int×Int×Int)} (h:PcAt w ao m) (hb:Below w.heap.size w w'):PcAt w' ao m:=by
 rcases h with h | ⟨b,off,rfl,hlt,hc⟩
 · exact .inl h
 · refine .inr ⟨b,off,rfl,Nat.lt_of_lt_of_le hlt hb.size,fun j hj=> ?_⟩
   rw [hb.cell (p:=⟨b,off+j*3,none⟩) hlt,hb.cell (p:=⟨b,off+j*3+1,none⟩) hlt,hb.cell (p:=⟨b,off+j*3+2,none⟩) hlt]
   exact hc j hj
theorem Tryz.infoPiece:(Seq.prog.info? 54).map (fun i=>(i.zero,i.size,i.bytes))=some (some (.agg #[.int .i64 0,.int .i64 0,.int .i64 0]),3,24):=by kernel_rfl
def flat3 (m:List (Int×Int×Int)):List Int:=m.flatMap fun p=>[p.1,p.2.1,p.2.2]
theorem flat3_cons (p:Int×Int×Int) (m:List (Int×Int×Int)):flat3 (p::m)=p.1::p.2.1::p.2.2::flat3 m:=by simp [flat3]
theorem flat3_append (a b:List (Int×Int×Int)):flat3 (a++b)=flat3 a++flat3 b:=by simp [flat3]
theorem flat3_length (m:List (Int×Int×Int)):(flat3 m).length=m.length*3:=by
 induction m with
 | nil=>rfl
 | cons p m ih=>rw [flat3_cons];simp only [List.length_cons,ih];omega
theorem flat3_getD (m:List (Int×Int×Int)) (j:Nat) (h:j<m.length):(flat3 m)[j*3]? =some (m.getD j (0,0,0)).1 /\ (flat3 m)[j*3+1]? =some (m.getD j (0,0,0)).2.1 /\ (flat3 m)[j*3+2]? =some (m.getD j (0,0,0)).2.2:=by
 induction m generalizing j with
 | nil=>simp at h
 | cons p m ih=>
   rw [flat3_cons]
   cases j with
   | zero=>exact ⟨rfl,rfl,rfl⟩
   | succ j=>
     have:=ih j (by simpa using h)
     rw [show (j+1)*3=j*3+1+1+1 by omega]
     simpa using this
def enc3 (m:List (Int×Int×Int)):List Value:=(flat3 m).map (Value.int .i64)
theorem enc3_append (a b:List (Int×Int×Int)):enc3 (a++b)=enc3 a++enc3 b:=by unfold enc3;rw [flat3_append,List.map_append]
theorem enc3_length (m:List (Int×Int×Int)):(enc3 m).length=m.length*3:=by unfold enc3;rw [List.length_map,flat3_length]
theorem pcAt_of_owns {w:World} {base e:Nat} {v:Value} {n:Nat} {m:List (Int×Int×Int)} (h:w.ownsRow base e 3 v n (enc3 m)):∃ao cap,v= .slice ao m.length cap /\ PcAt w ao m:=by
 obtain ⟨h1,h2⟩:=h
 simp only [enc3_length] at h1
 have hn:n=m.length:=by omega
 subst hn
 rcases h2 with ⟨rfl,h0⟩ | ⟨g,cap,cur,rfl,hb,hh,h3,h4,h5,h6⟩
 · exact ⟨none,0,by rw [h0],.inl (List.eq_nil_of_length_eq_zero h0)⟩
 · have hown:w.ownsRow base e 3 (.slice (some ⟨g,0,none⟩) m.length cap) m.length (enc3 m):=⟨by simp [enc3_length],.inr ⟨g,cap,cur,rfl,hb,hh,h3,h4,h5,h6⟩⟩
   refine ⟨_,cap,rfl,.inr ⟨g,0,rfl,(Array.getElem?_eq_some_iff.1 hh).1,fun j hj=> ?_⟩⟩
   obtain ⟨f0,f1,f2⟩:=flat3_getD m j hj
   rw [Nat.zero_add,hown.cellAt (j*3) (by omega),hown.cellAt (j*3+1) (by omega),hown.cellAt (j*3+2) (by omega)]
   simp only [enc3,List.getElem?_map,f0,f1,f2]
   exact ⟨rfl,rfl,rfl⟩
theorem cells_three_new (w:World) (B:Nat) (t:TypeId) (x y z:Value) (hB:B=w.heap.size):∀j u,[x,y,z][j]? =some u -> (w.alloc (.cells #[x,y,z] t)).cell? ((⟨B,0,none⟩:Addr).add j)=some u:=by
 subst hB
 intro j u hj
 match j,hj with
 | 0,hj=>simp at hj;subst hj;simp [Addr.add]
 | 1,hj=>simp at hj;subst hj;simp [Addr.add]
 | 2,hj=>simp at hj;subst hj;simp [Addr.add]
def Told3 (w w' :World) (e:Ending) (n:Int) (r:List (Int×Int×Int)):Prop:=
 ∃v,e= .returned (.tuple #[v,.int .i64 n]) /\ w'.ownsRow w.heap.size 54 3 v r.length (enc3 r) /\ Below w.heap.size w w'
def vtx (n:Nat) (v:Int):Bool:=decide (0 <= v)&&decide (v<(n:Int))
def alv (al:List Bool) (v:Int):Bool:=vtx al.length v&&al.getD v.toNat false
theorem vtx_iff (n:Nat) (v:Int):vtx n v=true↔0 <= v /\ v<(n:Int):=by unfold vtx;simp
theorem alv_iff (al:List Bool) (v:Int):alv al v=true↔0 <= v /\ v<(al.length:Int) /\ al.getD v.toNat false=true:=by
 unfold alv;rw [Bool.and_eq_true,vtx_iff];exact ⟨fun ⟨⟨a,b⟩,c⟩=>⟨a,b,c⟩,fun ⟨a,b,c⟩=>⟨⟨a,b⟩,c⟩⟩
structure Shot (al:List Bool) (arcs:List Ac):Prop where
 nv:al.length <= 12
 na:arcs.length <= 30
 ends:∀a∈arcs,alv al a.1=true /\ alv al a.2.1=true
 cost:∀a∈arcs,0 <= a.2.2 /\ a.2.2 <= 1000
theorem Shot.en {al:List Bool} {arcs:List Ac} (S:Shot al arcs):EndsIn al.length arcs:=by
 intro a ha
 have h:=S.ends a ha
 rw [alv_iff,alv_iff] at h
 omega
def firstL (al:List Bool) (f:Int -> Int):List Int:=(List.range al.length).map fun v=>if al.getD v false=true then f v else 1099511627776
def fromF (from_:Int) (v:Int):Int:=if v=from_ then 0 else 1099511627776
theorem firstL_length (al:List Bool) (f:Int -> Int):(firstL al f).length=al.length:=by simp [firstL]
theorem firstL_getD (al:List Bool) (f:Int -> Int) (v:Nat) (h:v<al.length):(firstL al f).getD v 0=if al.getD v false=true then f v else 1099511627776:=by
 unfold firstL
 rw [List.getD_eq_getElem?_getD,List.getElem?_map,List.getElem?_range h];rfl
theorem Shot.fine {al:List Bool} {arcs:List Ac} (S:Shot al arcs) {f:Int -> Int} {p:Ac -> Int} (hf:∀v:Nat,v<al.length -> 0 <= f v /\ f v <= 1099511627776) (hp:∀a∈arcs,0 <= p a /\ p a <= 1000):Fine (firstL al f) arcs p:=by
 refine ⟨fun v hv=> ?_,fun v hv=> ?_,hp,by rw [firstL_length];exact S.en⟩
 · rw [firstL_length] at hv
   rw [firstL_getD _ _ _ hv]
   split
   · exact (hf v hv).1
   · omega
 · rw [firstL_length] at hv
   rw [firstL_getD _ _ _ hv]
   split
   · exact (hf v hv).2
   · omega
theorem Shot.bothW {al:List Bool} {arcs:List Ac} (S:Shot al arcs) {f:Int -> Int} {p:Ac -> Int} (hf:∀v:Nat,v<al.length -> 0 <= f v /\ f v <= 1099511627776) (hp:∀a:Ac,a∈arcs -> 0 <= p a /\ p a <= 1000) (he:Even p):Fine (firstL al f) (bothW arcs) p:=by
 have F:=S.fine hf hp
 refine ⟨F.lo,F.hi,fun b hb=> ?_,fun b hb=> ?_⟩
 · obtain ⟨a,ha,rfl | rfl⟩:=mem_both.1 hb
   · exact hp _ ha
   · rw [he a];exact hp a ha
 · obtain ⟨a,ha,rfl | rfl⟩:=mem_both.1 hb
   · exact F.en _ ha
   · have:=F.en a ha;exact ⟨this.2.2.1,this.2.2.2,this.1,this.2.1⟩
theorem fromF_bounds (from_:Int) (v:Nat):0 <= fromF from_ v /\ fromF from_ v <= 1099511627776:=by unfold fromF;split<;>omega
def priceOf (prog:Nat) (a:Ac):Int:=if prog=1 then 1 else if prog=2 then a.2.2 else 0
theorem hidep {p:Prop} (h:p):Hid p:=h
theorem retp_bool {a b:Bool} (h:a=b):Ending.returned (.bool a)= .returned (.bool b):=by rw [h]
theorem PcAt.at3 {w:World} {b off:Nat} {m:List (Int×Int×Int)} {k:Nat} (hk:k<m.length) (hc:∀j,j<m.length -> w.cell? ⟨b,off+j*3,none⟩=some (.int .i64 (m.getD j (0,0,0)).1) /\ w.cell? ⟨b,off+j*3+1,none⟩=some (.int .i64 (m.getD j (0,0,0)).2.1) /\ w.cell? ⟨b,off+j*3+2,none⟩=some (.int .i64 (m.getD j (0,0,0)).2.2)):
   w.cell? ⟨b,off+k*3,none⟩=some (.int .i64 m[k].1) /\ w.cell? ⟨b,off+k*3+1,none⟩=some (.int .i64 m[k].2.1) /\ w.cell? ⟨b,off+k*3+2,none⟩=some (.int .i64 m[k].2.2):=by
 have h:=hc k hk
 simpa only [List.getD_eq_getElem?_getD,List.getElem?_eq_getElem hk,Option.getD_some] using h
def legV (o:Option Lg):Value:= .tuple #[.agg #[.int .i64 (o.getD (0,0,0,0)).1,.int .i64 (o.getD (0,0,0,0)).2.1,.int .i64 (o.getD (0,0,0,0)).2.2.1,.int .i64 (o.getD (0,0,0,0)).2.2.2],.bool o.isSome]
set_option maxRecDepth 100000 in
set_option maxHeartbeats 4000000 in
theorem legAt_any (A B:Int) (lo:Option Addr) (lcap:Nat) (legs:List Lg) (t:Int) (w:World) (hL:LgAt w lo legs) (hn:legs.length <= 9223372036854775807):
   Calls Seq.prog 25 #[.agg #[.int .i64 A,.int .i64 B,.slice lo legs.length lcap],.int .i64 t] w fun r w' =>r= .returned (legV (lgFind t legs)) /\ Below w.heap.size w w':=by
 have HB:Hid (∀o o',Below w.heap.size w ((w.alloc o).alloc o')):=fun o o' =>ptg (gal w o) (gal _ o')
 go_enter Seq.func25,Tryz.ntmps25
 go_wp2
 go_loopw [11] (fun i wr=>∃k:Nat,k <= legs.length /\ i= .int .i64 k /\ lgFind t legs=lgFind t (legs.drop k) /\ Below (w.heap.size+2) ((w.alloc (.cells #[.int .i64 A,.int .i64 B,.slice lo legs.length lcap] 47)).alloc (.cells #[.int .i64 0,.int .i64 0,.int .i64 0,.int .i64 0] 69)) wr) (fun i _=>legs.length-(intOf i).toNat)
 case atStart=>exact ⟨0,Nat.zero_le _,rfl,rfl,Below.refl _ _⟩
 case round=>
   obtain ⟨k,hk,rfl,hI,hb⟩:=hrel
   have HI:=hideg hI
   clear hI
   have hbw:Below w.heap.size w wr:=(HB.out _ _).trans (hb.mono (by omega))
   have hz:=hb.size
   simp only [World.size_alloc] at hz
   have hz0:w.heap.size<wr.heap.size:=by omega
   have hz1:w.heap.size+1<wr.heap.size:=by omega
   have r0:wr.cell? ⟨w.heap.size+1,0,none⟩=some (.int .i64 0):=by rw [hb.cell (p:=⟨w.heap.size+1,0,none⟩) (by simp)];simp
   have r1:wr.cell? ⟨w.heap.size+1,1,none⟩=some (.int .i64 0):=by rw [hb.cell (p:=⟨w.heap.size+1,1,none⟩) (by simp)];simp
   have r2:wr.cell? ⟨w.heap.size+1,2,none⟩=some (.int .i64 0):=by rw [hb.cell (p:=⟨w.heap.size+1,2,none⟩) (by simp)];simp
   have r3:wr.cell? ⟨w.heap.size+1,3,none⟩=some (.int .i64 0):=by rw [hb.cell (p:=⟨w.heap.size+1,3,none⟩) (by simp)];simp
   have f0:∀j,wr.frozen? ⟨w.heap.size+1,j,none⟩=false:=fun j=>by rw [hb.frozen (p:=⟨w.heap.size+1,j,none⟩) (by simp)];simp
   by_cases hlt:k<legs.length
   · rcases hL.below hbw with h0 | ⟨b,off,rfl,hbr,hc⟩
     · subst h0;simp at hlt
     obtain ⟨c0,c1,c2,c3⟩:=LgAt.get hlt hc
     have HN:=hideg (fun o=>hb.alloc (by omega) o)
     clear hc hL
     by_cases g1:legs[k].1 <= t
     · by_cases g2:t<legs[k].2.1
       · have HR:=hideg (lgFind_hit hlt HI.out ((hasB_iff _ _ _).2 ⟨g1,g2⟩))
         go_wp2
         refine bodyPost_ret (v:=legV (some legs[k])) (by simp [results,Tryz.results25,go_sem,legV,r0,r1,r2,r3,hz1]) rfl ⟨by rw [HR.out],?_⟩
         exact (((((hbw.setCell (p:=⟨w.heap.size+1,0,none⟩) (by simp) _).setCell (p:=⟨w.heap.size+1,1,none⟩) (by simp) _).setCell (p:=⟨w.heap.size+1,2,none⟩) (by simp) _).setCell (p:=⟨w.heap.size+1,3,none⟩) (by simp) _).alloc (by simp;omega) _)
       · have HR:=hideg (lgFind_next hlt HI.out (hasB_no (by omega)))
         go_wp2
         go_roundw
         case rel=>exact ⟨k+1,by omega,by go_num,HR.out,HN.out _⟩
         case measure=>simp [intOf];omega
     · have HR:=hideg (lgFind_next hlt HI.out (hasB_no (by omega)))
       go_wp2
       go_roundw
       case rel=>exact ⟨k+1,by omega,by go_num,HR.out,HN.out _⟩
       case measure=>simp [intOf];omega
   · have hkl:k=legs.length:=by omega
     subst hkl
     have HR:=hideg (lgFind_end HI.out)
     go_wp2
     refine bodyPost_ret (v:=legV none) (by simp [results,Tryz.results25,go_sem,legV,r0,r1,r2,r3]) rfl ⟨by rw [HR.out],?_⟩
     exact ((((hbw.setCell (p:=⟨w.heap.size+1,0,none⟩) (by simp) _).setCell (p:=⟨w.heap.size+1,1,none⟩) (by simp) _).setCell (p:=⟨w.heap.size+1,2,none⟩) (by simp) _).setCell (p:=⟨w.heap.size+1,3,none⟩) (by simp) _)
structure HeldIn (w0:World) where
 w:World
 h:Below w0.heap.size w0 w
theorem wp_region_held {P:Program} (w0:World) {id:Nat} {Q:Exit -> Act -> World -> Prop} {a:Act} {w:World} {l:List Oper} (h0:Below w0.heap.size w0 w) (hm:P.follows .mixedOrders=true) (hB:Region.lexB .any l.toArray=true)
   (h:wpQuiet P l.toArray (fun w' =>∃s:HeldIn w0,w' =s.w) (fun a' =>∀w',(∃s:HeldIn w0,w' =s.w) -> Q .normal a' w') l a):(Code.region id l.toArray true).wp P Q a w:=
 wp_region_quiet (C:=fun w' =>∃s:HeldIn w0,w' =s.w) hm hB ⟨⟨_,h0.drew⟩,rfl⟩ (by simpa using h)
theorem held_of {P:Program} {f:FuncId} {args:Array Value} {w0:World} {s:HeldIn w0} {v:Value}
   (h:Calls P f args s.w fun e w' =>e= .returned v /\ Below s.w.heap.size s.w w'):Calls P f args s.w fun e w'' =>e= .returned v /\ ∃s' :HeldIn w0,w'' =s'.w:=
 h.mono fun _ w' ⟨he,hb⟩=>⟨he,⟨w',s.h.trans (hb.mono s.h.size)⟩,rfl⟩
theorem held_same {P:Program} {f:FuncId} {args:Array Value} {w0:World} {s:HeldIn w0} {v:Value}
   (h:Calls P f args s.w fun e w' =>e= .returned v /\ w' =s.w):Calls P f args s.w fun e w'' =>e= .returned v /\ ∃s' :HeldIn w0,w'' =s'.w:=
 h.mono fun _ _ ⟨he,hb⟩=>⟨he,s,hb⟩
open Go
def fwdB (ops:Array Oper):Bool:=(List.range ops.size).all fun j=>match ops[j]? with
 | some o=>o.guard.isNone&&o.after.all fun e=> !Region.binds .any e||decide (e.on<j)
 | none=>true
def lastB (ops:Array Oper) (st:Oper):Bool:=st.guard.isNone&&(st.after.all (fun e=> !Region.binds .any e||decide (e.on<ops.size))&&(List.range ops.size).all fun j=>
 st.after.any (fun e=>Region.binds .any e&&e.on==j)||(List.range ops.size).any fun k=>decide (j<k)&&match ops[k]? with
   | some o=>o.after.any fun e=>Region.binds .any e&&e.on==j
   | none=>false)
theorem fwd_spec {ops:Array Oper} (h:fwdB ops=true) {j:Nat} {o:Oper} (hj:ops[j]? =some o):o.guard=none /\ ∀e∈o.after,Region.binds .any e=true -> e.on<j:=by
 have hlt:j<ops.size:=(Array.getElem?_eq_some_iff.1 hj).1
 have:=List.all_eq_true.1 h j (List.mem_range.2 hlt)
 simp only [hj,Bool.and_eq_true,Option.isNone_iff_eq_none,Array.all_eq_true_iff_forall_mem] at this
 refine ⟨this.1,fun e he hb=> ?_⟩
 have h2:=this.2 e he
 rw [hb] at h2
 simpa using h2
def Closed (ops:Array Oper) (listed:Array Bool):Prop:=∀(j:Nat) (o:Oper),ops[j]? =some o -> listed.getD j true=true -> ∀e∈o.after,Region.binds .any e=true -> listed.getD e.on false=true
theorem all_listed {ops:Array Oper} {listed:Array Bool} (hf:fwdB ops=true) (hsz:listed.size=ops.size) (hr:Region.ready .any ops listed=[]):∀j,j<ops.size -> listed.getD j false=true:=by
 intro j
 induction j using Nat.strongRecOn with
 | _ j ih=>
   intro hj
   have ho:ops[j]? =some ops[j]:=Array.getElem?_eq_getElem hj
   cases hl:listed.getD j false with
   | true=>rfl
   | false=>
     have hm:j∈Region.ready .any ops listed:=by
       rw [mem_ready]
       have hj' :j<listed.size:=by omega
       refine ⟨by simpa [hj'] using hl,_,ho,fun e he hb=> ?_⟩
       have:=(fwd_spec hf ho).2 e he hb
       exact ih e.on this (by omega)
     rw [hr] at hm
     cases hm
theorem arr_any {α:Type} {l:Array α} {p:α -> Bool} (h:l.any p=true):∃e∈l,p e=true:=by
 rw [<- Array.any_toList] at h
 obtain ⟨e,he,h2⟩:=List.any_eq_true.1 h
 exact ⟨e,by simpa using he,h2⟩
theorem last_waits {ops:Array Oper} {st:Oper} {listed:Array Bool} (hl:lastB ops st=true) (hc:Closed ops listed) (hsz:listed.size=ops.size) (hs:∀e∈st.after,Region.binds .any e=true -> e.on<ops.size -> listed.getD e.on false=true):∀d j,j+d=ops.size -> j<ops.size -> listed.getD j false=true:=by
 simp only [lastB,Bool.and_eq_true] at hl
 intro d
 induction d using Nat.strongRecOn with
 | _ d ih=>
   intro j hd hj
   have h1:=List.all_eq_true.1 hl.2.2 j (List.mem_range.2 hj)
   rw [Bool.or_eq_true] at h1
   rcases h1 with h1 | h1
   · obtain ⟨e,he,h2⟩:=arr_any h1
     rw [Bool.and_eq_true,beq_iff_eq] at h2
     rw [<- h2.2]
     exact hs e he h2.1 (by rw [h2.2];exact hj)
   · obtain ⟨k,hk,h2⟩:=List.any_eq_true.1 h1
     rw [List.mem_range] at hk
     rw [Bool.and_eq_true,decide_eq_true_eq] at h2
     have ho:ops[k]? =some ops[k]:=Array.getElem?_eq_getElem hk
     simp only [ho] at h2
     obtain ⟨e,he,h3⟩:=arr_any h2.2
     rw [Bool.and_eq_true,beq_iff_eq] at h3
     have hkl:=ih (d-(k-j)) (by omega) k (by omega) hk
     rw [<- h3.2]
     refine hc k _ ho ?_ e he h3.1
     have hk' :k<listed.size:=by omega
     simpa [hk'] using hkl
theorem getD_push {l:Array Bool} {j:Nat} (d:Bool) (h:j<l.size):(l.push false).getD j d=l.getD j d:=by
 have h' :j<(l.push false).size:=by simp;omega
 unfold Array.getD
 rw [dif_pos h',dif_pos h]
 exact Array.getElem_push_lt h
theorem getElem_pushO {ops:Array Oper} {st:Oper} {j:Nat} (h:j<ops.size):(ops.push st)[j]? =ops[j]? :=by
 rw [Array.getElem?_push,if_neg (by omega)]
theorem ready_push {ops:Array Oper} {st:Oper} {listed:Array Bool} (hf:fwdB ops=true) (hl:lastB ops st=true) (hc:Closed ops listed) (hsz:listed.size=ops.size) (hne:Region.ready .any ops listed≠[]) (i:Nat):
   i∈Region.ready .any (ops.push st) (listed.push false)↔i∈Region.ready .any ops listed:=by
 rw [mem_ready,mem_ready]
 rcases Nat.lt_trichotomy i ops.size with hi | hi | hi
 · rw [getD_push true (by omega),getElem_pushO hi]
   refine and_congr_right fun _=>exists_congr fun o=>and_congr_right fun ho=>forall_congr' fun e=>forall_congr' fun he=>forall_congr' fun hb=> ?_
   have:=(fwd_spec hf ho).2 e he hb
   rw [getD_push false (by omega)]
 · subst hi
   constructor
   · rintro ⟨_,o,ho,hall⟩
     have ho' :o=st:=by
       rw [Array.getElem?_push,if_pos rfl] at ho
       exact (Option.some.inj ho).symm
     subst ho'
     exfalso
     apply hne
     have hall2:=last_waits hl hc hsz (fun e he hb hlt=>by have:=hall e he hb;rwa [getD_push false (by omega)] at this)
     apply List.eq_nil_iff_forall_not_mem.2
     intro j hj
     rw [mem_ready] at hj
     obtain ⟨h0,o,hoj,_⟩:=hj
     have hjlt:j<ops.size:=(Array.getElem?_eq_some_iff.1 hoj).1
     have h1:=hall2 (ops.size-j) j (by omega) hjlt
     have hj' :j<listed.size:=by omega
     simp [hj'] at h0 h1
     rw [h0] at h1
     cases h1
   · rintro ⟨_,o,ho,_⟩
     rw [Array.getElem?_eq_none (Nat.le_refl _)] at ho
     cases ho
 · constructor
   · rintro ⟨_,o,ho,_⟩
     rw [Array.getElem?_eq_none (by simp;omega)] at ho
     cases ho
   · rintro ⟨_,o,ho,_⟩
     rw [Array.getElem?_eq_none (by omega)] at ho
     cases ho
theorem ready_last {ops:Array Oper} {st:Oper} {listed:Array Bool} (hl:lastB ops st=true) (hsz:listed.size=ops.size) (hall:∀j,j<ops.size -> listed.getD j false=true) (i:Nat):
   i∈Region.ready .any (ops.push st) (listed.push false)↔i=ops.size:=by
 rw [mem_ready]
 simp only [lastB,Bool.and_eq_true] at hl
 rcases Nat.lt_trichotomy i ops.size with hi | hi | hi
 · have h1:=hall i hi
   have hi' :i<listed.size:=by omega
   constructor
   · rintro ⟨h0,_⟩
     rw [getD_push true hi'] at h0
     simp [hi'] at h0 h1
     rw [h0] at h1
     cases h1
   · intro h;omega
 · subst hi
   refine ⟨fun _=>rfl,fun _=>⟨by simp [<- hsz],st,by rw [Array.getElem?_push,if_pos rfl],fun e he hb=> ?_⟩⟩
   have h2:=Array.all_eq_true_iff_forall_mem.1 hl.2.1 e he
   rw [hb] at h2
   have h3:e.on<ops.size:=by simpa using h2
   rw [getD_push false (by omega)]
   exact hall e.on h3
 · constructor
   · rintro ⟨_,o,ho,_⟩
     rw [Array.getElem?_eq_none (by simp;omega)] at ho
     cases ho
   · intro h;omega
theorem ready_done {ops:Array Oper} {st:Oper} {listed:Array Bool} (hsz:listed.size=ops.size) (hall:∀j,j<ops.size -> listed.getD j false=true):Region.ready .any (ops.push st) ((listed.push false).setIfInBounds ops.size true)=[]:=by
 apply List.eq_nil_iff_forall_not_mem.2
 intro j hj
 rw [mem_ready] at hj
 obtain ⟨h0,o,hoj,_⟩:=hj
 have hjlt:j<ops.size+1:=by simpa using (Array.getElem?_eq_some_iff.1 hoj).1
 by_cases e:j=ops.size
 · subst e
   simp [hsz] at h0
 · have hj' :j<listed.size:=by omega
   have h1:=hall j (by omega)
   have h2:((listed.push false).setIfInBounds ops.size true).getD j true=(listed.push false).getD j true:=by
     exact getD_set_ne true (Ne.symm e)
   rw [h2,getD_push true hj'] at h0
   simp [hj'] at h0 h1
   rw [h0] at h1
   cases h1
def BackQ (P:Program) (st:Oper) (Q:Exit -> Act -> World -> Prop):Exit -> Act -> World -> Prop
 | .normal,a,w=>st.wp P a w (fun a' w' =>Q .normal a' w') Q
 | e,a,w=>Q e a w
theorem wp_back {P:Program} {o st:Oper} {Q:Exit -> Act -> World -> Prop} {K K' :Act -> World -> Prop} {a:Act} {w:World} (hK:∀a w,K a w -> K' a w) (h:o.wp P a w K (BackQ P st Q)):o.wp P a w K' Q:=by
 unfold Oper.wp at*
 generalize (execOp a.eval o).run P w=r at*
 cases r with
 | ok n w' =>
   cases n<;>simp only [Oper.upon] at h ⊢<;>
     first
       | exact hK _ _ h
       | exact Calls.mono h (fun e w'' he=>by cases e<;>first | exact hK _ _ he | exact he)
       | exact Rows.mono h (fun _ _ he=>hK _ _ he)
 | halt x w' =>cases x<;>simp only [Oper.upon] at h ⊢<;>exact h
theorem pop_sound {P:Program} {ops:Array Oper} {st:Oper} {Q:Exit -> Act -> World -> Prop} (hf:fwdB ops=true) (hl:lastB ops st=true):∀(fuel:Nat) (listed:Array Bool) (a:Act) (w:World),listed.size=ops.size -> Closed ops listed ->
   wpAny P .any ops (BackQ P st Q) fuel listed a w -> wpAny P .any (ops.push st) Q (fuel+1) (listed.push false) a w:=by
 have hgd:st.guard=none:=by
   simp only [lastB,Bool.and_eq_true,Option.isNone_iff_eq_none] at hl
   exact hl.1
 have fin:∀(fuel:Nat) (listed:Array Bool) (a:Act) (w:World),listed.size=ops.size -> Region.ready .any ops listed=[] -> BackQ P st Q .normal a w -> wpAny P .any (ops.push st) Q (fuel+1) (listed.push false) a w:=by
   intro fuel listed a w hsz hr hq
   have hall:=all_listed hf hsz hr
   refine ⟨fun h=> ?_,fun i hi=> ?_⟩
   · have:=(ready_last (st:=st) hl hsz hall ops.size).2 rfl
     rw [h] at this
     cases this
   · rw [ready_last hl hsz hall] at hi
     subst hi
     have ho:(ops.push st)[ops.size]? =some st:=by rw [Array.getElem?_push,if_pos rfl]
     unfold wpOp
     simp only [ho,Region.wanted,hgd,if_true]
     refine .inl (Oper.wp_mono (fun a' w' h=> ?_) hq)
     have hd:=ready_done (st:=st) hsz hall
     cases fuel with
     | zero=>exact ⟨hd,h⟩
     | succ n=>exact ⟨fun _=>h,by rw [hd];simp⟩
 intro fuel
 induction fuel with
 | zero=>
   intro listed a w hsz hc h
   exact fin 0 listed a w hsz h.1 h.2
 | succ fuel ih=>
   intro listed a w hsz hc h
   by_cases hr:Region.ready .any ops listed=[]
   · exact fin (fuel+1) listed a w hsz hr (h.1 hr)
   · refine ⟨fun h0=> ?_,fun i hi=> ?_⟩
     · exfalso
       apply hr
       apply List.eq_nil_iff_forall_not_mem.2
       intro j hj
       have:=(ready_push hf hl hc hsz hr j).2 hj
       rw [h0] at this
       cases this
     · have hi':=(ready_push hf hl hc hsz hr i).1 hi
       have h1:=h.2 i hi'
       obtain ⟨hun,o,ho,hdep⟩:=mem_ready.1 hi'
       have hilt:i<ops.size:=(Array.getElem?_eq_some_iff.1 ho).1
       have ho' :(ops.push st)[i]? =some o:=by rw [getElem_pushO hilt];exact ho
       have hg:=(fwd_spec hf ho).1
       have eset:(listed.push false).setIfInBounds i true=(listed.setIfInBounds i true).push false:=by
         apply Array.ext_getElem?
         intro k
         rw [Array.getElem?_setIfInBounds,Array.getElem?_push,Array.getElem?_push,Array.getElem?_setIfInBounds]
         have hil:i<listed.size:=by omega
         by_cases h3:i=k
         · subst h3
           simp [hil,Nat.ne_of_lt hil]
           omega
         · simp [h3]
       have hc' :Closed ops (listed.setIfInBounds i true):=by
         intro j oj hoj hlj e he hb
         by_cases hij:i=j
         · subst hij
           rw [ho] at hoj
           cases hoj
           exact getD_set_true (hdep e he hb)
         · rw [getD_set_ne true hij] at hlj
           exact getD_set_true (hc j oj hoj hlj e he hb)
       unfold wpOp at h1 ⊢
       simp only [ho,ho',Region.wanted,hg,if_true] at h1 ⊢
       rw [eset]
       refine h1.imp (fun hh=>wp_back (fun a' w' hk=>ih _ a' w' (by simpa using hsz) hc' hk) hh) (fun hh=>⟨hh.1,hh.2⟩)
theorem take_lit {P:Program} {l:List Oper} {Q:Exit -> Act -> World -> Prop} {md:Region.Mode} {S:World -> Prop} {i:Nat} {oi:Oper} {v:Value} {fuel:Nat} {listed:Array Bool} {a:Act} {w:World} (hi:l[i]? =some oi)
   (hs:Region.noSelect l.toArray=true) (hf:Region.free md l.toArray listed i=true) (hr:(Region.ready md l.toArray listed).contains i=true)
   (hQ:∀c a w,Q (.panic c) (a.put oi.dst v) w -> Q (.panic c) a w) (hy:YieldsIf P l.toArray S oi v a) (hS:S w)
   (h:wpAnyH P md l.toArray Q S fuel (listed.setIfInBounds i true) (a.put oi.dst v) w):wpAnyH P md l.toArray Q S (fuel+1) listed a w:=
 wpAnyH_take (by simpa using hi) hs hf hr hQ hy hS h
theorem next_lit {P:Program} {l:List Oper} {Q:Exit -> Act -> World -> Prop} {md:Region.Mode} {S:World -> Prop} {i:Nat} {o:Oper} {fuel:Nat} {listed:Array Bool} {a:Act} {w:World} (ho:l[i]? =some o) (hr:Region.ready md l.toArray listed=[i])
   (h:∀K' :Act -> World -> Prop,Shut (∀a w,S w -> (S w -> wpAnyH P md l.toArray Q S fuel (listed.setIfInBounds i true) a w) -> K' a w) -> if Region.wanted o (yielded l.toArray a.tmps)=true then Oper.wp P o a w K' Q else K' (a.put o.dst undef) w):wpAnyH P md l.toArray Q S (fuel+1) listed a w:=
 wpAnyH_ready hr (by simp) (AllReadyH.cons (by simpa using ho) h AllReadyH.nil)
theorem back_last {P:Program} {st:Oper} {Q:Exit -> Act -> World -> Prop} {a:Act} {w:World} (h:∀K,Shut (∀a w,Q .normal a w -> K a w) -> st.wp P a w K Q):BackQ P st Q .normal a w:=
 h (fun a w=>Q .normal a w) (fun _ _ h=>h)
theorem wp_region_held_back {P:Program} (w0:World) {id:Nat} {full:Array Oper} {Q:Exit -> Act -> World -> Prop} {a:Act} {w:World} (h0:Below w0.heap.size w0 w) (hm:P.follows .mixedOrders=true) (hn:0<full.size) (hB:Region.lexB .any full.pop=true) (hf:fwdB full.pop=true) (hl:lastB full.pop full.back! =true)
   (h:wpQuiet P full.pop (fun w' =>∃s:HeldIn w0,w' =s.w) (fun a' =>∀w',(∃s:HeldIn w0,w' =s.w) -> BackQ P full.back! Q .normal a' w') full.pop.toList a):(Code.region id full true).wp P Q a w:=by
 have e:full=full.pop.push full.back! :=(Array.eq_push_pop_back!_of_size_ne_zero (by omega))
 generalize full.pop=ops at*
 generalize full.back! =st at*
 subst e
 simp only [Region.lexB,Bool.and_eq_true] at hB
 refine wp_region_any hm ?_
 have h1:wpAny P .any ops (BackQ P st Q) ops.size (Array.replicate ops.size false) a w.drew:=by
   refine wpAny_of_quiet (C:=fun w' =>∃s:HeldIn w0,w' =s.w) (Q:=fun a' =>∀w',(∃s:HeldIn w0,w' =s.w) -> BackQ P st Q .normal a' w') (fun _ w' hw' h=>h w' hw') _ _ _ _ ⟨⟨_,h0.drew⟩,rfl⟩ ?_
   have:=wpAnyQ_lex (C:=fun w' =>∃s:HeldIn w0,w' =s.w) (md:= .any) hB.1 ops.toList 0 (Array.replicate ops.size false) a (by simp) (by simpa using hB.2) h
   simpa using this
 have h2:=pop_sound hf hl ops.size _ a w.drew (by simp) (by
   intro j o hj hlj
   have:j<ops.size:=(Array.getElem?_eq_some_iff.1 hj).1
   simp [this] at hlj) h1
 have e1:(Array.replicate ops.size false).push false=Array.replicate (ops.push st).size false:=by
   apply Array.ext
   · simp
   · intro k h1 h2
     simp [Array.getElem_push]
 rw [e1] at h2
 have e2:(ops.push st).size=ops.size+1:=by simp
 rw [e2] at h2 ⊢
 exact h2
abbrev Zo (w:World) (base gb n cap:Nat) (x:List Int):Prop:=w.ownsRow base 3 1 (.slice (some ⟨gb,0,none⟩) n cap) n (x.map (Value.int .i64))
theorem Zo.len {w:World} {base gb n cap:Nat} {x:List Int} (h:Zo w base gb n cap x):x.length=n:=by have:=h.1;simpa using this
theorem Zo.cell {w:World} {base gb n cap:Nat} {x:List Int} (h:Zo w base gb n cap x) {k:Nat} (hk:k<n):w.cell? ⟨gb,k,none⟩=some (.int .i64 (x.getD k 0)):=by
 have hl:=h.len
 rw [World.ownsRow.cellAt h k (by omega),List.getElem?_map,List.getD_eq_getElem?_getD,List.getElem?_eq_getElem (by omega)];rfl
theorem Zo.set {w:World} {base gb n cap:Nat} {x:List Int} (h:Zo w base gb n cap x) (k:Nat) (v:Int):Zo (w.setCell ⟨gb,k,none⟩ (.int .i64 v)) base gb n cap (x.set k v):=by
 have:=(World.ownsRow.stored h k (.int .i64 v)).1
 rw [<- List.map_set] at this
 exact this
theorem wp_region_held_back2 {P:Program} (w0:World) {id:Nat} {full:Array Oper} {Q:Exit -> Act -> World -> Prop} {a:Act} {w:World} (h0:Below w0.heap.size w0 w) (hm:P.follows .mixedOrders=true) (hn:1<full.size)
   (hB:Region.lexB .any full.pop.pop=true) (hf:fwdB full.pop.pop=true) (hl:lastB full.pop.pop full.pop.back! =true) (hf2:fwdB full.pop=true) (hl2:lastB full.pop full.back! =true)
   (h:wpQuiet P full.pop.pop (fun w' =>∃s:HeldIn w0,w' =s.w) (fun a' =>∀w',(∃s:HeldIn w0,w' =s.w) -> BackQ P full.pop.back! (BackQ P full.back! Q) .normal a' w') full.pop.pop.toList a):(Code.region id full true).wp P Q a w:=by
 have e:full=full.pop.push full.back! :=(Array.eq_push_pop_back!_of_size_ne_zero (by omega))
 have e' :full.pop=full.pop.pop.push full.pop.back! :=(Array.eq_push_pop_back!_of_size_ne_zero (by simp;omega))
 rw [e']  at hf2 hl2
 generalize full.pop.pop=ops at*
 generalize full.pop.back! =st at*
 generalize full.back! =sl at*
 rw [e'] at e
 subst e
 simp only [Region.lexB,Bool.and_eq_true] at hB
 refine wp_region_any hm ?_
 have h1:wpAny P .any ops (BackQ P st (BackQ P sl Q)) ops.size (Array.replicate ops.size false) a w.drew:=by
   refine wpAny_of_quiet (C:=fun w' =>∃s:HeldIn w0,w' =s.w) (Q:=fun a' =>∀w',(∃s:HeldIn w0,w' =s.w) -> BackQ P st (BackQ P sl Q) .normal a' w') (fun _ w' hw' h=>h w' hw') _ _ _ _ ⟨⟨_,h0.drew⟩,rfl⟩ ?_
   have:=wpAnyQ_lex (C:=fun w' =>∃s:HeldIn w0,w' =s.w) (md:= .any) hB.1 ops.toList 0 (Array.replicate ops.size false) a (by simp) (by simpa using hB.2) h
   simpa using this
 have cl:∀os:Array Oper,Closed os (Array.replicate os.size false):=fun os j o hj hlj=>by
   have:j<os.size:=(Array.getElem?_eq_some_iff.1 hj).1
   simp [this] at hlj
 have e1:∀(os:Array Oper) (s:Oper),(Array.replicate os.size false).push false=Array.replicate (os.push s).size false:=fun os s=>by
   apply Array.ext
   · simp
   · intro k h1 h2
     simp [Array.getElem_push]
 have h2:=pop_sound hf hl ops.size _ a w.drew (by simp) (cl ops) h1
 rw [e1 ops st,show ops.size+1=(ops.push st).size by simp] at h2
 have h3:=pop_sound hf2 hl2 (ops.push st).size _ a w.drew (by simp) (cl _) h2
 rw [e1 (ops.push st) sl,show (ops.push st).size+1=((ops.push st).push sl).size by simp] at h3
 exact h3
theorem jalive_any (a b t:Int) (w:World):Calls Seq.prog 64 #[.agg #[.int .i64 a,.int .i64 b],.int .i64 t] w fun e w' =>e= .returned (.bool (hasB a b t)) /\ Below w.heap.size w w':=by
 have HB:=hideg (gal w)
 by_cases g1:a <= t
 · by_cases g2:t<b
   · have HC:=hideg ((hasB_iff a b t).2 ⟨g1,g2⟩)
     go_enter Seq.func64,Tryz.ntmps64
     go_wp2
     go_ret
     exact ⟨ret_bool HC.out.symm,HB.out _⟩
   · have HC:=hideg (hasB_no (a:=a) (b:=b) (t:=t) (fun h=>g2 h.2))
     go_enter Seq.func64,Tryz.ntmps64
     go_wp2
     go_ret
     exact ⟨ret_bool HC.out.symm,HB.out _⟩
 · have HC:=hideg (hasB_no (a:=a) (b:=b) (t:=t) (fun h=>g1 h.1))
   go_enter Seq.func64,Tryz.ntmps64
   go_wp2
   go_ret
   exact ⟨ret_bool HC.out.symm,HB.out _⟩
set_option maxHeartbeats 1000000 in
theorem jwaits_any (a b s t:Int) (w:World):Calls Seq.prog 115 #[.agg #[.int .i64 a,.int .i64 b],.int .i64 s,.int .i64 t] w fun e w' =>e= .returned (.bool (decide (s <= t)&&(hasB a b s&&hasB a b t))) /\ Below w.heap.size w w':=by
 have HB:=hideg (gal w (.cells #[.int .i64 a,.int .i64 b] 95))
 by_cases g1:s <= t
 · have HD:Hid (decide (s <= t)=true):=by show _=_;simpa using g1
   have h1:=fun W=>jalive_any a b s W
   have h2:=fun W=>jalive_any a b t W
   cases e1:hasB a b s with
   | false=>
     rw [e1] at h1
     go_enter Seq.func115,Tryz.ntmps115
     go_wp2_with (go_at_call 64;refine (h1 _).mono ?_;rintro e w1 ⟨rfl,hb1⟩)
     go_ret
     exact ⟨by rw [HD.out];rfl,ptg HB.out (by assumption)⟩
   | true=>
     rw [e1] at h1
     cases e2:hasB a b t<;>rw [e2] at h2
     all_goals
       go_enter Seq.func115,Tryz.ntmps115
       go_wp2_with fail
       refine (h1 _).mono ?_
       rintro e w1 ⟨rfl,hb1⟩
       have c0:w1.cell? ⟨w.heap.size,0,none⟩=some (.int .i64 a):=by rw [hb1.cell (p:=⟨w.heap.size,0,none⟩) (by simp)];simp
       have c1:w1.cell? ⟨w.heap.size,1,none⟩=some (.int .i64 b):=by rw [hb1.cell (p:=⟨w.heap.size,1,none⟩) (by simp)];simp
       have hbb:=ptg HB.out hb1
       clear hb1 h1
       go_wp2_with fail
       refine (h2 _).mono ?_
       rintro e w2 ⟨rfl,hb2⟩
       have hbF:=ptg hbb hb2
       clear hb2 h2
       go_wp2
       go_ret
       exact ⟨by rw [HD.out];rfl,hbF⟩
 · have HD:Hid (decide (s <= t)=false):=by show _=_;simpa using g1
   go_enter Seq.func115,Tryz.ntmps115
   go_wp2
   go_ret
   exact ⟨by rw [HD.out];rfl,HB.out⟩
structure GBx (w W:World) (B:Nat) (g:Gr) (la ea:Option Addr) (lc ec:Nat):Prop where
 c0:W.cell? ⟨B,0,none⟩=some (.int .i64 g.hor)
 c1:W.cell? ⟨B,1,none⟩=some (.slice la g.lives.length lc)
 c2:W.cell? ⟨B,2,none⟩=some (.slice ea g.edges.length ec)
 bel:Below w.heap.size w W
 lt:B<W.heap.size
theorem gbx_start (w:World) (g:Gr) (la ea:Option Addr) (lc ec:Nat) (T:TypeId):GBx w (w.alloc (.cells #[.int .i64 g.hor,.slice la g.lives.length lc,.slice ea g.edges.length ec] T)) w.heap.size g la ea lc ec:=
 ⟨by simp,by simp,by simp,gal w _,by simp⟩
theorem GBx.below {w W W' :World} {B:Nat} {g:Gr} {la ea:Option Addr} {lc ec:Nat} (h:GBx w W B g la ea lc ec) (hb:Below W.heap.size W W'):GBx w W' B g la ea lc ec:=
 ⟨(hb.cell (p:=⟨B,0,none⟩) h.lt).trans h.c0,(hb.cell (p:=⟨B,1,none⟩) h.lt).trans h.c1,(hb.cell (p:=⟨B,2,none⟩) h.lt).trans h.c2,ptg h.bel hb,Nat.lt_of_lt_of_le h.lt hb.size⟩
theorem placeE_chk {g:Gr} {v t:Int} (h:gChk g≠0):placeE g v t=gChk g:=by unfold placeE;rw [if_neg h]
set_option maxRecDepth 100000 in
set_option maxHeartbeats 2000000 in
theorem jcheck_any (g:Gr) (la ea:Option Addr) (lc ec:Nat) (v t:Int) (w:World) (hG:GAt w la ea g):
   Calls Seq.prog 36 #[.agg #[.int .i64 g.hor,.slice la g.lives.length lc,.slice ea g.edges.length ec],.int .i64 v,.int .i64 t] w fun r w' =>r= .returned (.int .i64 (placeE g v t)) /\ Below w.heap.size w w':=by
 have B0:=gbx_start w g la ea lc ec 25
 have h1:=gCheck_any g la ea lc ec _ (hG.below B0.bel)
 by_cases e1:gChk g=0
 · have hR:=gChk_right e1
   have hl12:=hR.lvs
   have hh:=hR.hor
   have hv:=fun W=>gHasV_any g.hor la ea g.lives.length lc g.edges.length ec v W hl12
   have ht:=fun W=>gHasT_any g.hor la ea g.lives.length lc g.edges.length ec t W hh.1 hh.2
   have HQ:Hid (placeE g v t=if inR v 0 ((g.lives.length:Int)- 1)=true then if inR t 0 (g.hor- 1)=true then 0 else 1 else 4):=by show _=_;unfold placeE;rw [if_pos e1]
   rw [e1] at h1
   clear hG e1 hR hh
   cases bv:inR v 0 ((g.lives.length:Int)- 1) with
   | false=>
     rw [bv] at hv HQ
     clear bv ht
     go_enter Seq.func36,Tryz.ntmps36
     go_wp2_with fail
     refine h1.mono ?_
     rintro e w1 ⟨rfl,hb1⟩
     have B1:=B0.below hb1
     have cc0:=B1.c0
     have cc1:=B1.c1
     have cc2:=B1.c2
     clear h1 hb1 B0
     go_wp2_with fail
     refine (hv _).mono ?_
     rintro e w2 ⟨rfl,hb2⟩
     have hbF:=(B1.below hb2).bel
     clear hv hb2 B1 cc0 cc1 cc2
     go_wp2
     go_ret
     exact ⟨ret_int HQ.out.symm,by assumption⟩
   | true=>
     rw [bv] at hv HQ
     cases bt:inR t 0 (g.hor- 1)<;>rw [bt] at ht HQ
     all_goals
       clear bv bt
       go_enter Seq.func36,Tryz.ntmps36
       go_wp2_with fail
       refine h1.mono ?_
       rintro e w1 ⟨rfl,hb1⟩
       have B1:=B0.below hb1
       have cc0:=B1.c0
       have cc1:=B1.c1
       have cc2:=B1.c2
       clear h1 hb1 B0
       go_wp2_with fail
       refine (hv _).mono ?_
       rintro e w2 ⟨rfl,hb2⟩
       have B2:=B1.below hb2
       clear hv hb2 B1 cc0 cc1 cc2
       have cc0:=B2.c0
       have cc1:=B2.c1
       have cc2:=B2.c2
       go_wp2_with fail
       refine (ht _).mono ?_
       rintro e w3 ⟨rfl,hb3⟩
       have hbF:=(B2.below hb3).bel
       clear ht hb3 B2 cc0 cc1 cc2
       go_wp2
       go_ret
       exact ⟨ret_int HQ.out.symm,by assumption⟩
 · have HP:=hideg (placeE_chk (v:=v) (t:=t) e1)
   have d1:(gChk g !=0)=true:=by simpa using e1
   generalize gChk g=n at*
   clear hG e1
   go_enter Seq.func36,Tryz.ntmps36
   go_wp2_with fail
   refine h1.mono ?_
   rintro e w1 ⟨rfl,hb1⟩
   have hbF:=(B0.below hb1).bel
   clear h1 hb1 B0
   go_wp2
   go_ret
   exact ⟨ret_int HP.out.symm,hbF⟩
end Go.Proofs.YtfphigmeppdocaaGreat.Q
