/-
  Several texts in one.
-/
import Derived.Test.YtfphigmeppdocaaGreatPk9
namespace Go.Proofs.YtfphigmeppdocaaGreat.Q
open Lo (Seq.prog)
theorem lg_low {h:Int}:∀{ls:List Lg} {p:Int},lgChk h p ls=0 -> ∀l∈ls,p <= l.1
 | [],_,_,l,hl=>by cases hl
 | q::ls,p,hk,l,hl=>by
   unfold lgChk at hk
   split at hk
   · cases hk
   · rename_i hf
     split at hk
     · cases hk
     · rename_i hp
       rcases List.mem_cons.1 hl with rfl | hl
       · omega
       · have h1:=lg_low hk l hl
         have h2:=(fitB_iff _ _).1 (by simpa using hf)
         omega
theorem lgFind_all {h t:Int}:∀{ls:List Lg} {p:Int},lgChk h p ls=0 -> ∀l∈ls,l.1 <= t -> t<l.2.1 -> lgFind t ls=some l
 | [],_,_,l,hl,_,_=>by cases hl
 | q::ls,p,hk,l,hl,h1,h2=>by
   unfold lgChk at hk
   split at hk
   · cases hk
   · rename_i hf
     split at hk
     · cases hk
     · rename_i hp
       rw [lgFind]
       rcases List.mem_cons.1 hl with rfl | hl
       · rw [if_pos ((hasB_iff _ _ _).2 ⟨h1,h2⟩)]
       · have h3:=lg_low hk l hl
         rw [if_neg (by rw [hasB_iff];omega)]
         exact lgFind_all hk l hl h1 h2
theorem legs_ord {g:Gr} (h:gChk g=0) {e:Ed} (he:e∈g.edges):lgChk g.hor 0 e.2.2=0:=by
 unfold gChk at h
 split at h
 · cases h
 · split at h
   · cases h
   · split at h
     · cases h
     · have:=eds_all h e he
       unfold edChk at this
       split at this
       · cases this
       · split at this
         · cases this
         · exact this
theorem mem_arcs {g:Gr} (h0:gChk g=0) {t:Int} {a:Ac}:a∈arcsL t g.lives g.edges↔∃e∈g.edges,∃l∈e.2.2,l.1 <= t /\ t<l.2.1 /\ aliveB t g.lives e.1=true /\ aliveB t g.lives e.2.1=true /\ a=(e.1,e.2.1,l.2.2.2):=by
 unfold arcsL
 rw [List.mem_flatMap]
 constructor
 · rintro ⟨e,he,ha⟩
   unfold arcOf at ha
   split at ha
   · cases ha
   · rename_i l hl
     split at ha
     · rename_i hal
       rw [Bool.and_eq_true] at hal
       rw [List.mem_singleton] at ha
       obtain ⟨h1,h2,h3⟩:=lgFind_mem hl
       exact ⟨e,he,l,h1,h2,h3,hal.1,hal.2,ha⟩
     · cases ha
 · rintro ⟨e,he,l,hl,h1,h2,h3,h4,rfl⟩
   refine ⟨e,he,?_⟩
   rw [arcOf_some (lgFind_all (legs_ord h0 he) l hl h1 h2) (by rw [h3,h4];rfl)]
   simp
abbrev Pt:=Int×Int×Int×Int×Int
def lifeOf (g:Gr) (v:Int):Int×Int:=g.lives.getD v.toNat (0,0)
def pthOf (g:Gr) (p:Nat) (e:Ed) (l:Lg):Pt:=
 (e.1,e.2.1,max l.1 (max (lifeOf g e.1).1 (lifeOf g e.2.1).1),min l.2.1 (min (lifeOf g e.1).2 (lifeOf g e.2.1).2),priceOf p (e.1,e.2.1,l.2.2.2))
def pthsL (g:Gr) (p:Nat) (e:Ed) (l:Lg):List Pt:=
 if (pthOf g p e l).2.2.2.1 <= (pthOf g p e l).2.2.1 then [] else if p=3 then [pthOf g p e l,((pthOf g p e l).2.1,(pthOf g p e l).1,(pthOf g p e l).2.2)] else [pthOf g p e l]
def pathsF (g:Gr) (p:Nat):List Pt:=g.edges.flatMap fun e=>e.2.2.flatMap fun l=>pthsL g p e l
theorem alive_life {g:Gr} {v t:Int} (h0:0 <= v) (h1:v<g.lives.length):aliveB t g.lives v=true↔(lifeOf g v).1 <= t /\ t<(lifeOf g v).2:=by
 obtain ⟨V,rfl⟩:∃V:Nat,v=(V:Int):=⟨v.toNat,by omega⟩
 rw [aliveB_at t g.lives V (by omega),hasB_iff]
 unfold lifeOf
 rw [Int.toNat_natCast,List.getD_eq_getElem?_getD,List.getElem?_eq_getElem (by omega)]
 rfl
theorem priceOf_even (p:Nat):Even (priceOf p):=fun a=>by unfold priceOf;rfl
theorem paths_iff {g:Gr} (h0:gChk g=0) {p:Nat} {t a b m:Int}:
   (∃π∈pathsF g p,π.1=a /\ π.2.1=b /\ π.2.2.2.2=m /\ π.2.2.1 <= t /\ t<π.2.2.2.1)↔∃α∈ways (decide (p=3)) (arcsL t g.lives g.edges),α.1=a /\ α.2.1=b /\ priceOf p α=m:=by
 have R:=gChk_right h0
 have one:∀{e:Ed},e∈g.edges -> ∀{l:Lg},((pthOf g p e l).2.2.1 <= t /\ t<(pthOf g p e l).2.2.2.1)↔(l.1 <= t /\ t<l.2.1) /\ aliveB t g.lives e.1=true /\ aliveB t g.lives e.2.1=true:=by
   intro e he l
   obtain ⟨hA,hB,_⟩:=R.ends e he
   rw [alive_life hA.1 hA.2,alive_life hB.1 hB.2]
   unfold pthOf
   simp only
   omega
 constructor
 · rintro ⟨π,hπ,rfl,rfl,rfl,h1,h2⟩
   unfold pathsF at hπ
   rw [List.mem_flatMap] at hπ
   obtain ⟨e,he,hπ⟩:=hπ
   rw [List.mem_flatMap] at hπ
   obtain ⟨l,hl,hπ⟩:=hπ
   unfold pthsL at hπ
   split at hπ
   · cases hπ
   · split at hπ
     · rename_i hp
       subst hp
       rcases List.mem_cons.1 hπ with rfl | hπ
       · obtain ⟨k1,k2,k3⟩:=(one he).1 ⟨h1,h2⟩
         exact ⟨(e.1,e.2.1,l.2.2.2),(mem_ways ((mem_arcs h0).2 ⟨e,he,l,hl,k1.1,k1.2,k2,k3,rfl⟩)).1,rfl,rfl,rfl⟩
       · rw [List.mem_singleton] at hπ
         subst hπ
         obtain ⟨k1,k2,k3⟩:=(one he).1 ⟨h1,h2⟩
         exact ⟨(e.2.1,e.1,l.2.2.2),(mem_ways (a:=(e.1,e.2.1,l.2.2.2)) ((mem_arcs h0).2 ⟨e,he,l,hl,k1.1,k1.2,k2,k3,rfl⟩)).2 (by decide),rfl,rfl,rfl⟩
     · rw [List.mem_singleton] at hπ
       subst hπ
       obtain ⟨k1,k2,k3⟩:=(one he).1 ⟨h1,h2⟩
       exact ⟨(e.1,e.2.1,l.2.2.2),(mem_ways ((mem_arcs h0).2 ⟨e,he,l,hl,k1.1,k1.2,k2,k3,rfl⟩)).1,rfl,rfl,rfl⟩
 · rintro ⟨α,hα,rfl,rfl,rfl⟩
   have put:∀{e:Ed},e∈g.edges -> ∀{l:Lg},l∈e.2.2 -> ∀{π:Pt},π∈pthsL g p e l -> π∈pathsF g p:=fun he _ hl _ hπ=>by
     unfold pathsF
     rw [List.mem_flatMap]
     exact ⟨_,he,List.mem_flatMap.2 ⟨_,hl,hπ⟩⟩
   have main:∀{β:Ac},β∈arcsL t g.lives g.edges -> ∃e∈g.edges,∃l∈e.2.2,β=(e.1,e.2.1,l.2.2.2) /\ (pthOf g p e l).2.2.1 <= t /\ t<(pthOf g p e l).2.2.2.1:=by
     intro β hβ
     obtain ⟨e,he,l,hl,k1,k2,k3,k4,rfl⟩:=(mem_arcs h0).1 hβ
     exact ⟨e,he,l,hl,rfl,(one he).2 ⟨⟨k1,k2⟩,k3,k4⟩⟩
   unfold ways at hα
   split at hα
   · rename_i hp
     have hp:p=3:=by simpa using hp
     obtain ⟨β,hβ,hα⟩:=mem_both.1 hα
     obtain ⟨e,he,l,hl,rfl,k1,k2⟩:=main hβ
     rcases hα with rfl | rfl
     · exact ⟨pthOf g p e l,put he hl (by unfold pthsL;rw [if_neg (by omega),if_pos hp];simp),rfl,rfl,rfl,k1,k2⟩
     · exact ⟨((pthOf g p e l).2.1,(pthOf g p e l).1,(pthOf g p e l).2.2),put he hl (by unfold pthsL;rw [if_neg (by omega),if_pos hp];simp),rfl,rfl,(priceOf_even p (e.1,e.2.1,l.2.2.2)).symm,k1,k2⟩
   · rename_i hp
     have hp:¬p=3:=by simpa using hp
     obtain ⟨e,he,l,hl,rfl,k1,k2⟩:=main hα
     exact ⟨pthOf g p e l,put he hl (by unfold pthsL;rw [if_neg (by omega),if_neg hp];simp),rfl,rfl,rfl,k1,k2⟩
structure Runs (n:Nat) (W:List Ac) (p:Ac -> Int) (x:Nat -> List Int):Prop where
 step:∀r,RndIs W p (x r) (x (r+1))
 len:∀r,(x r).length=n
 en:EndsIn n W
 pos:∀a∈W,0 <= p a /\ p a <= 1000
theorem Runs.down {n:Nat} {W:List Ac} {p:Ac -> Int} {x:Nat -> List Int} (h:Runs n W p x) {v:Nat} (hv:v<n):∀(d r:Nat),(x (r+d)).getD v 0 <= (x r).getD v 0
 | 0,r=>Int.le_refl _
 | d+1,r=>by
   have h1:=h.down hv d r
   have h2:=(h.step (r+d)).le v (by rw [h.len];exact hv)
   rw [show r+(d+1)=r+d+1 by omega]
   omega
theorem Runs.chain {n:Nat} {W:List Ac} {p:Ac -> Int} {x:Nat -> List Int} (h:Runs n W p x):∀(r v:Nat),v<n -> (x (r+1)).getD v 0<(x r).getD v 0 ->
   ∃L:List Nat,L.length=r+1 /\ L.Nodup /\ (∀u∈L,u<n) /\ v∉L /\ ∀u∈L,∃j,j <= r /\ (x j).getD u 0 <= (x (r+1)).getD v 0:=by
 intro r
 induction r with
 | zero=>
   intro v hv hlt
   rcases (h.step 0).from_ v (by rw [h.len];exact hv) with e | ⟨a,ha,e1,e2⟩
   · omega
   · have en:=h.en a ha
     have hp:=h.pos a ha
     refine ⟨[a.1.toNat],rfl,by simp,fun u hu=> ?_,fun hm=> ?_,fun u hu=> ?_⟩
     · rw [List.mem_singleton] at hu;omega
     · rw [List.mem_singleton] at hm
       rw [hm] at hlt e2
       omega
     · rw [List.mem_singleton] at hu
       exact ⟨0,Nat.le_refl _,by rw [hu];omega⟩
 | succ r ih=>
   intro v hv hlt
   rcases (h.step (r+1)).from_ v (by rw [h.len];exact hv) with e | ⟨a,ha,e1,e2⟩
   · omega
   · have en:=h.en a ha
     have hp:=h.pos a ha
     have hu:a.1.toNat<n:=by omega
     have himp:(x (r+1)).getD a.1.toNat 0<(x r).getD a.1.toNat 0:=by
       have h1:=(h.step r).le a.1.toNat (by rw [h.len];exact hu)
       have h2:=(h.step r).tell a ha
       rw [e1] at h2
       omega
     obtain ⟨L,k1,k2,k3,k4,k5⟩:=ih a.1.toNat hu himp
     have low:∀u∈a.1.toNat::L,∃j,j <= r+1 /\ (x j).getD u 0 <= (x (r+1+1)).getD v 0:=by
       intro u hu
       rcases List.mem_cons.1 hu with rfl | hu
       · exact ⟨r+1,Nat.le_refl _,by omega⟩
       · obtain ⟨j,j1,j2⟩:=k5 u hu
         exact ⟨j,by omega,by omega⟩
     refine ⟨a.1.toNat::L,by simp [k1],List.nodup_cons.2 ⟨k4,k2⟩,fun u hu=> ?_,fun hm=> ?_,low⟩
     · rcases List.mem_cons.1 hu with rfl | hu
       · omega
       · exact k3 u hu
     · obtain ⟨j,j1,j2⟩:=low v hm
       have:=h.down hv (r+1-j) j
       rw [show j+(r+1-j)=r+1 by omega] at this
       omega
theorem nodup_lt:∀{n:Nat} {L:List Nat},L.Nodup -> (∀u∈L,u<n) -> L.length <= n
 | 0,[],_,_=>Nat.le_refl _
 | 0,u::L,_,hl=>by have:=hl u (by simp);omega
 | n+1,L,h,hl=>by
   by_cases hm:n∈L
   · have h1:=nodup_lt (n:=n) (L:=L.erase n) (h.erase n) (fun u hu=>by
       have h2:=h.mem_erase_iff.1 hu
       have:=hl u h2.2
       omega)
     rw [List.length_erase_of_mem hm] at h1
     omega
   · have h1:=nodup_lt (n:=n) h (fun u hu=>by
       have:=hl u hu
       have:u≠n:=fun e=>hm (e▸hu)
       omega)
     omega
theorem Runs.few {n:Nat} {W:List Ac} {p:Ac -> Int} {x:Nat -> List Int} (h:Runs n W p x) {r v:Nat} (hv:v<n) (hlt:(x (r+1)).getD v 0<(x r).getD v 0):r+2 <= n:=by
 obtain ⟨L,k1,k2,k3,k4,_⟩:=h.chain r v hv hlt
 have:=nodup_lt (n:=n) (L:=v::L) (List.nodup_cons.2 ⟨k4,k2⟩) (fun u hu=>by
   rcases List.mem_cons.1 hu with rfl | hu
   · exact hv
   · exact k3 u hu)
 simp [k1] at this
 omega
theorem Runs.still {n:Nat} {W:List Ac} {p:Ac -> Int} {x:Nat -> List Int} (h:Runs n W p x) {r:Nat} (hr:n <= r+1):x (r+1)=x r:=by
 refine news_none (h.step r) (fun v hv=> ?_)
 unfold newsOf
 split
 · rename_i hlt
   have:=h.few (by rw [<- h.len r];exact hv) hlt
   omega
 · rfl
theorem Runs.stays {n:Nat} {W:List Ac} {p:Ac -> Int} {x:Nat -> List Int} (h:Runs n W p x) {k:Nat} (hk:x (k+1)=x k):∀d,x (k+d)=x k
 | 0=>rfl
 | d+1=>by
   have h1:=h.stays hk d
   have h2:=h.step (k+d)
   rw [h1] at h2
   have h3:=h.step k
   rw [show k+(d+1)=k+d+1 by omega,rndIs_unique h2 h3,hk]
theorem Runs.small {n:Nat} {W:List Ac} {p:Ac -> Int} {x:Nat -> List Int} (h:Runs n W p x) {B:Int} (h0:∀v,v<n -> (x 0).getD v 0<1099511627776 -> (x 0).getD v 0 <= B):
   ∀(r v:Nat),v<n -> (x r).getD v 0<1099511627776 -> (x r).getD v 0 <= B+1000*(r:Int):=by
 intro r
 induction r with
 | zero=>intro v hv hl;have:=h0 v hv hl;simpa using this
 | succ r ih=>
   intro v hv hl
   rcases (h.step r).from_ v (by rw [h.len];exact hv) with e | ⟨a,ha,e1,e2⟩
   · rw [e] at hl ⊢
     have:=ih v hv hl
     omega
   · have en:=h.en a ha
     have hp:=h.pos a ha
     have:=ih a.1.toNat (by omega) (by omega)
     omega
def begG (p:Nat) (fr v:Int):Int:=if p=3 then v else fromF fr v
def XX (g:Gr) (p:Nat) (fr:Int) (r:Nat) (t:Int):List Int:=rnds (arcsL t g.lives g.edges) (priceOf p) (decide (p=3)) r (firstL (aliveL t g.lives) (begG p fr))
def WW (g:Gr) (p:Nat) (t:Int):List Ac:=ways (decide (p=3)) (arcsL t g.lives g.edges)
theorem XX_len (g:Gr) (p:Nat) (fr:Int) (r:Nat) (t:Int):(XX g p fr r t).length=g.lives.length:=by unfold XX;rw [rnds_length,firstL_length,aliveL_length]
theorem arcs_in {g:Gr} (h0:gChk g=0) (t:Int):EndsIn g.lives.length (arcsL t g.lives g.edges):=by
 intro a ha
 obtain ⟨e,he,l,hl,_,_,_,_,rfl⟩:=(mem_arcs h0).1 ha
 obtain ⟨h1,h2,_⟩:=(gChk_right h0).ends e he
 exact ⟨h1.1,h1.2,h2.1,h2.2⟩
theorem ways_of {back:Bool} {arcs:List Ac} {b:Ac} (h:b∈ways back arcs):∃a∈arcs,b=a \/ b=(a.2.1,a.1,a.2.2):=by
 unfold ways at h
 split at h
 · exact mem_both.1 h
 · exact ⟨b,h,.inl rfl⟩
theorem WW_in {g:Gr} (h0:gChk g=0) (p:Nat) (t:Int):EndsIn g.lives.length (WW g p t):=by
 intro b hb
 obtain ⟨a,ha,e | e⟩:=ways_of hb<;>subst e
 · exact arcs_in h0 t _ ha
 · obtain ⟨h1,h2,h3,h4⟩:=arcs_in h0 t _ ha
   exact ⟨h3,h4,h1,h2⟩
theorem price_pos {g:Gr} (h0:gChk g=0) {p:Nat} {t:Int}:∀a∈WW g p t,0 <= priceOf p a /\ priceOf p a <= 1000:=by
 intro b hb
 obtain ⟨a,ha,hab⟩:=ways_of hb
 obtain ⟨e,he,l,hl,_,_,_,_,rfl⟩:=(mem_arcs h0).1 ha
 have hf:=(fitB_iff _ _).1 ((gChk_right h0).legs e he l hl)
 have hc:b.2.2=l.2.2.2:=by rcases hab with e | e<;>subst e<;>rfl
 unfold priceOf
 rw [hc]
 split
 · omega
 · split<;>omega
theorem runsX {g:Gr} (h0:gChk g=0) (p:Nat) (fr t:Int):Runs g.lives.length (WW g p t) (priceOf p) (fun r=>XX g p fr r t):=by
 refine ⟨fun r=> ?_,fun r=>XX_len g p fr r t,WW_in h0 p t,price_pos h0⟩
 have:=rnd_is (arcs:=arcsL t g.lives g.edges) (p:=priceOf p) (back:=decide (p=3)) (x:=XX g p fr r t) (fun _=>priceOf_even p) (by rw [XX_len];exact arcs_in h0 t)
 exact this
def optI (z:Int):Option Int:=if z<1099511627776 then some z else none
def nwX (g:Gr) (p:Nat) (fr:Int) (r:Nat) (t:Int) (v:Nat):Option Int:=match r with
 | 0=>optI ((XX g p fr 0 t).getD v 0)
 | r+1=>newsOf (XX g p fr r t) (XX g p fr (r+1) t) v
theorem first_hi {g:Gr} {p:Nat} {fr t:Int} (hv12:g.lives.length <= 12):∀v,v<g.lives.length -> (0 <= (XX g p fr 0 t).getD v 0 /\ (XX g p fr 0 t).getD v 0 <= 1099511627776) /\ ((XX g p fr 0 t).getD v 0<1099511627776 -> (XX g p fr 0 t).getD v 0 <= 12):=by
 intro v hv
 have e:(XX g p fr 0 t).getD v 0=if (aliveL t g.lives).getD v false=true then begG p fr v else 1099511627776:=firstL_getD _ _ v (by rw [aliveL_length];exact hv)
 rw [e]
 unfold begG fromF
 split
 · split
   · omega
   · split<;>omega
 · omega
theorem newAt {g:Gr} (h0:gChk g=0) (p:Nat) (fr:Int) (r:Nat) (t:Int):NewAt (WW g p t) (priceOf p) (XX g p fr r t) (nwX g p fr r t):=by
 have R:=runsX h0 p fr t
 cases r with
 | zero=>exact news_first _ (fun a ha=>(R.pos a ha).1) (by rw [R.len 0];exact R.en) (fun v hv=>((first_hi (gChk_right h0).lvs) v (by rw [<- R.len 0];exact hv)).1.2) (fun v _=>rfl)
 | succ r=>exact news_next (by rw [R.len r];exact R.en) (R.step r)
theorem nwX_small {g:Gr} {p:Nat} {fr:Int} {r:Nat} {t:Int} {v:Nat} {z:Int} (h0:gChk g=0) (hv:v<g.lives.length) (h:nwX g p fr r t v=some z):z=(XX g p fr r t).getD v 0 /\ z<1099511627776:=by
 have R:=runsX h0 p fr t
 have h1:=(newAt h0 p fr r t).val v z (by rw [R.len r];exact hv) h
 refine ⟨h1,?_⟩
 cases r with
 | zero=>
   have h:optI ((XX g p fr 0 t).getD v 0)=some z:=h
   unfold optI at h
   split at h
   · cases h;assumption
   · cases h
 | succ r=>
   have h:newsOf (XX g p fr r t) (XX g p fr (r+1) t) v=some z:=h
   unfold newsOf at h
   split at h
   · rename_i hl
     have h2:=R.down hv r 0
     have h3:=((first_hi (p:=p) (fr:=fr) (t:=t) (gChk_right h0).lvs) v hv).1.2
     simp only [Nat.zero_add] at h2
     rw [h1]
     omega
   · cases h
def TellIs (n:Nat) (T:Nat -> List (Int×Int×Int)) (f:Int -> Nat -> Option Int):Prop:=∀v,v<n -> MCan (T v) /\ ∀t,tel (T v) t=f t v
abbrev ToldIs (g:Gr) (p:Nat) (fr:Int) (r:Nat) (T:Nat -> List (Int×Int×Int)):Prop:=TellIs g.lives.length T fun t v=>optI ((XX g p fr r t).getD v 0)
abbrev NewsIs (g:Gr) (p:Nat) (fr:Int) (r:Nat) (N:Nat -> List (Int×Int×Int)):Prop:=TellIs g.lives.length N fun t v=>nwX g p fr r t v
structure HeardIs (g:Gr) (p:Nat) (fr:Int) (r:Nat) (H:Nat -> List (Int×Int×Int)):Prop where
 can:∀v,v<g.lives.length -> MCan (H v)
 most:∀π∈pathsF g p,∀t,π.2.2.1 <= t -> t<π.2.2.2.1 -> ∀z,nwX g p fr r t π.1.toNat=some z -> ∃h,tel (H π.2.1.toNat) t=some h /\ h <= z+π.2.2.2.2
 from_:∀v,v<g.lives.length -> ∀t h,tel (H v) t=some h -> ∃π∈pathsF g p,π.2.1.toNat=v /\ π.2.2.1 <= t /\ t<π.2.2.2.1 /\ ∃z,nwX g p fr r t π.1.toNat=some z /\ h=z+π.2.2.2.2
theorem HeardIs.at {g:Gr} (h0:gChk g=0) {p:Nat} {fr:Int} {r:Nat} {H:Nat -> List (Int×Int×Int)} (h:HeardIs g p fr r H) (t:Int):HeardAt (WW g p t) (priceOf p) (nwX g p fr r t) (fun v=>if v<g.lives.length then tel (H v) t else none):=by
 refine ⟨fun a ha z hz=> ?_,fun v q hq=> ?_⟩
 · obtain ⟨π,hπ,e1,e2,e3,e4,e5⟩:=(paths_iff h0 (p:=p) (t:=t) (a:=a.1) (b:=a.2.1) (m:=priceOf p a)).2 ⟨a,ha,rfl,rfl,rfl⟩
   have en:=WW_in h0 p t a ha
   obtain ⟨q,k1,k2⟩:=h.most π hπ t e4 e5 z (by rw [e1];exact hz)
   rw [e2] at k1
   rw [e3] at k2
   exact ⟨q,by rw [if_pos (by omega)];exact k1,k2⟩
 · split at hq
   · rename_i hv
     obtain ⟨π,hπ,e1,e2,e3,z,e4,e5⟩:=h.from_ v hv t q hq
     obtain ⟨a,ha,k1,k2,k3⟩:=(paths_iff h0 (p:=p) (t:=t) (a:=π.1) (b:=π.2.1) (m:=π.2.2.2.2)).1 ⟨π,hπ,rfl,rfl,rfl,e2,e3⟩
     exact ⟨a,ha,by rw [k2];exact e1,z,by rw [k1];exact e4,by rw [k3];exact e5⟩
   · cases hq
def lessF (told heard:Option Int):Option Int:=match heard with
 | none=>none
 | some h=>match told with
   | none=>some h
   | some z=>if h<z then some h else none
def takeF (told news:Option Int):Option Int:=match told,news with
 | none,b=>b
 | some z,none=>some z
 | some z,some h=>some (min z h)
theorem round_next {g:Gr} (h0:gChk g=0) {p:Nat} {fr:Int} {r:Nat} {T N' H:Nat -> List (Int×Int×Int)} (hr:r <= 1000000) (hT:ToldIs g p fr r T) (hH:HeardIs g p fr r H) (hc:∀v,v<g.lives.length -> MCan (N' v)) (hN:∀v,v<g.lives.length -> ∀t,tel (N' v) t=lessF (tel (T v) t) (tel (H v) t)):NewsIs g p fr (r+1) N':=by
 intro v hv
 refine ⟨hc v hv,fun t=> ?_⟩
 have R:=runsX h0 p fr t
 have hA:=hH.at h0 t
 have hy:=news_round (y:=XX g p fr (r+1) t) (by rw [R.len r];exact R.en) (newAt h0 p fr r t) hA (R.step r) v (by rw [R.len r];exact hv)
 simp only [if_pos hv] at hy
 rw [hN v hv t,(hT v hv).2 t]
 show _=newsOf (XX g p fr r t) (XX g p fr (r+1) t) v
 have hi:(XX g p fr r t).getD v 0 <= 1099511627776:=by
   have h2:=R.down hv r 0
   have h3:=((first_hi (p:=p) (fr:=fr) (t:=t) (gChk_right h0).lvs) v hv).1.2
   simp only [Nat.zero_add] at h2
   omega
 unfold newsOf lessF optI
 cases hh:tel (H v) t with
 | none=>
   rw [hh] at hy
   simp only at hy ⊢
   rw [if_neg (by omega)]
 | some q=>
   rw [hh] at hy
   simp only at hy ⊢
   obtain ⟨a,ha,e1,z,e2,e3⟩:=hA.from_ v q (by simp only [if_pos hv];exact hh)
   have en:=WW_in h0 p t a ha
   obtain ⟨z1,z2⟩:=nwX_small h0 (by omega) e2
   have hsm:=R.small (B:=12) (fun u hu hl=>((first_hi (p:=p) (fr:=fr) (t:=t) (gChk_right h0).lvs) u hu).2 hl) r a.1.toNat (by omega) (by omega)
   have hpr:=R.pos a ha
   have hq:q<1099511627776:=by omega
   by_cases hx:(XX g p fr r t).getD v 0<1099511627776
   · rw [if_pos hx]
     simp only
     by_cases hl:q<(XX g p fr r t).getD v 0
     · rw [if_pos hl,if_pos (by omega)]
       congr 1;omega
     · rw [if_neg hl,if_neg (by omega)]
   · rw [if_neg hx]
     simp only
     rw [if_pos (by omega)]
     congr 1;omega
theorem told_next {g:Gr} (h0:gChk g=0) {p:Nat} {fr:Int} {r:Nat} {T T' N' :Nat -> List (Int×Int×Int)} (hT:ToldIs g p fr r T) (hN:NewsIs g p fr (r+1) N') (hc:∀v,v<g.lives.length -> MCan (T' v)) (hT' :∀v,v<g.lives.length -> ∀t,tel (T' v) t=takeF (tel (T v) t) (tel (N' v) t)):ToldIs g p fr (r+1) T':=by
 intro v hv
 refine ⟨hc v hv,fun t=> ?_⟩
 have R:=runsX h0 p fr t
 rw [hT' v hv t,(hT v hv).2 t,(hN v hv).2 t]
 show takeF (optI ((XX g p fr r t).getD v 0)) (newsOf (XX g p fr r t) (XX g p fr (r+1) t) v)=optI ((XX g p fr (r+1) t).getD v 0)
 have hle:=(R.step r).le v (by rw [R.len r];exact hv)
 have hi:(XX g p fr r t).getD v 0 <= 1099511627776:=by
   have h2:=R.down hv r 0
   have h3:=((first_hi (p:=p) (fr:=fr) (t:=t) (gChk_right h0).lvs) v hv).1.2
   simp only [Nat.zero_add] at h2
   omega
 unfold newsOf takeF optI
 by_cases hx:(XX g p fr r t).getD v 0<1099511627776
 · rw [if_pos hx]
   by_cases hl:(XX g p fr (r+1) t).getD v 0<(XX g p fr r t).getD v 0
   · rw [if_pos hl,if_pos (by omega)]
     show some (min _ _)=_
     congr 1;omega
   · rw [if_neg hl,if_pos (by omega)]
     show some _=some _
     congr 1;omega
 · rw [if_neg hx]
   by_cases hl:(XX g p fr (r+1) t).getD v 0<(XX g p fr r t).getD v 0
   · rw [if_pos hl,if_pos (by omega)]
   · rw [if_neg hl,if_neg (by omega)]
theorem news_empty {g:Gr} (h0:gChk g=0) {p:Nat} {fr:Int} {r:Nat} {N' :Nat -> List (Int×Int×Int)} (hN:NewsIs g p fr (r+1) N') (he:∀v,v<g.lives.length -> N' v=[]) (t:Int):XX g p fr (r+1) t=XX g p fr r t:=by
 refine news_none ((runsX h0 p fr t).step r) (fun v hv=> ?_)
 have hv' :v<g.lives.length:=by rw [<- XX_len g p fr r t];exact hv
 have h1:=(hN v hv').2 t
 rw [he v hv',tel_nil] at h1
 exact h1.symm
theorem news_few {g:Gr} (h0:gChk g=0) {p:Nat} {fr:Int} {r:Nat} {N' :Nat -> List (Int×Int×Int)} (hN:NewsIs g p fr (r+1) N') {v:Nat} (hv:v<g.lives.length) (he:N' v≠[]):r+2 <= g.lives.length:=by
 cases hm:N' v with
 | nil=>exact absurd hm he
 | cons q m=>
   have hc:=(hN v hv).1
   rw [hm] at hc
   have h1:=(hN v hv).2 q.1
   rw [hm,tel_cons,if_pos (by unfold inP;have:=hc.1;simp;omega)] at h1
   have h2:newsOf (XX g p fr r q.1) (XX g p fr (r+1) q.1) v=some q.2.2:=h1.symm
   unfold newsOf at h2
   split at h2
   · rename_i hl
     exact (runsX h0 p fr q.1).few hv hl
   · cases h2
def pt0:Pt:=(0,0,0,0,0)
def togF (M:Nat -> Nat -> List (Int×Int×Int)):Nat -> Nat -> Int -> Option Int
 | 0,_,_=>none
 | j+1,v,t=>mrg 1 (togF M j v t) (tel (M j v) t)
theorem mrg_none (how:Int) (x:Option Int):mrg how x none=x:=by cases x<;>rfl
def alongF (N:Nat -> List (Int×Int×Int)) (π:Pt) (t:Int):Option Int:=if π.2.2.1 <= t /\ t<π.2.2.2.1 then (tel (N π.1.toNat) t).map (·+π.2.2.2.2) else none
def sndF (N:Nat -> List (Int×Int×Int)) (wk W:Int) (ps:List Pt):Nat -> Nat -> Int -> Option Int
 | 0,_,_=>none
 | k+1,v,t=>if (ps.getD k pt0).1%W=wk /\ (ps.getD k pt0).2.1=(v:Int) then mrg 1 (sndF N wk W ps k v t) (alongF N (ps.getD k pt0) t) else sndF N wk W ps k v t
def GoodPt (n:Nat) (π:Pt):Prop:=(0 <= π.1 /\ π.1<n) /\ (0 <= π.2.1 /\ π.2.1<n) /\ (0 <= π.2.2.1 /\ π.2.2.1<π.2.2.2.1 /\ π.2.2.2.1 <= 100) /\ 0 <= π.2.2.2.2 /\ π.2.2.2.2 <= 1000
theorem mrg_from {a b:Option Int} {h:Int} (e:mrg 1 a b=some h):a=some h \/ b=some h:=by
 cases a with
 | none=>exact .inr e
 | some x=>
   cases b with
   | none=>exact .inl e
   | some y=>
     simp only [mrg,both,if_pos,Option.some.injEq] at e
     rcases Int.le_total x y with k | k
     · left;rw [Int.min_eq_left k] at e;rw [e]
     · right;rw [Int.min_eq_right k] at e;rw [e]
theorem mrg_left {a b:Option Int} {z:Int} (e:a=some z):∃h,mrg 1 a b=some h /\ h <= z:=by
 subst e
 cases b with
 | none=>exact ⟨z,rfl,Int.le_refl _⟩
 | some y=>exact ⟨min z y,by simp [mrg,both],by omega⟩
theorem mrg_right {a b:Option Int} {z:Int} (e:b=some z):∃h,mrg 1 a b=some h /\ h <= z:=by
 subst e
 cases a with
 | none=>exact ⟨z,rfl,Int.le_refl _⟩
 | some y=>exact ⟨min y z,by simp [mrg,both],by omega⟩
theorem mrg_lower {a b:Option Int} {z:Int} (e:∃h,a=some h /\ h <= z):∃h,mrg 1 a b=some h /\ h <= z:=by
 obtain ⟨x,e,hx⟩:=e
 obtain ⟨h,e2,h2⟩:=mrg_left (b:=b) e
 exact ⟨h,e2,by omega⟩
theorem snd_from (N:Nat -> List (Int×Int×Int)) (wk W:Int) (ps:List Pt) (v:Nat) (t h:Int):∀k,sndF N wk W ps k v t=some h -> ∃i,i<k /\ (ps.getD i pt0).1%W=wk /\ (ps.getD i pt0).2.1=(v:Int) /\ alongF N (ps.getD i pt0) t=some h
 | 0,e=>by cases e
 | k+1,e=>by
   rw [sndF] at e
   split at e
   · rename_i hc
     rcases mrg_from e with e | e
     · obtain ⟨i,h1,h2⟩:=snd_from N wk W ps v t h k e
       exact ⟨i,by omega,h2⟩
     · exact ⟨k,by omega,hc.1,hc.2,e⟩
   · obtain ⟨i,h1,h2⟩:=snd_from N wk W ps v t h k e
     exact ⟨i,by omega,h2⟩
theorem snd_most (N:Nat -> List (Int×Int×Int)) (wk W:Int) (ps:List Pt) (v:Nat) (t z:Int) {i:Nat} (h1:(ps.getD i pt0).1%W=wk) (h2:(ps.getD i pt0).2.1=(v:Int)) (h3:alongF N (ps.getD i pt0) t=some z):∀k,i<k -> ∃h,sndF N wk W ps k v t=some h /\ h <= z
 | 0,h=>by omega
 | k+1,h=>by
   rw [sndF]
   by_cases e:i=k
   · subst e
     rw [if_pos ⟨h1,h2⟩]
     exact mrg_right h3
   · have ih:=snd_most N wk W ps v t z h1 h2 h3 k (by omega)
     split
     · exact mrg_lower ih
     · exact ih
theorem tog_from (M:Nat -> Nat -> List (Int×Int×Int)) (v:Nat) (t h:Int):∀j,togF M j v t=some h -> ∃i,i<j /\ tel (M i v) t=some h
 | 0,e=>by cases e
 | j+1,e=>by
   rw [togF] at e
   rcases mrg_from e with e | e
   · obtain ⟨i,h1,h2⟩:=tog_from M v t h j e
     exact ⟨i,by omega,h2⟩
   · exact ⟨j,by omega,e⟩
theorem tog_most (M:Nat -> Nat -> List (Int×Int×Int)) (v:Nat) (t z:Int) {i:Nat} (h1:∃h,tel (M i v) t=some h /\ h <= z):∀j,i<j -> ∃h,togF M j v t=some h /\ h <= z
 | 0,h=>by omega
 | j+1,h=>by
   rw [togF]
   by_cases e:i=j
   · subst e
     obtain ⟨x,e1,h2⟩:=h1
     obtain ⟨y,e2,h3⟩:=mrg_right (a:=togF M i v t) e1
     exact ⟨y,e2,by omega⟩
   · exact mrg_lower (tog_most M v t z h1 j (by omega))
theorem paths_good {g:Gr} (h0:gChk g=0) {p:Nat} {π:Pt} (h:π∈pathsF g p):GoodPt g.lives.length π:=by
 have R:=gChk_right h0
 unfold pathsF at h
 rw [List.mem_flatMap] at h
 obtain ⟨e,he,h⟩:=h
 rw [List.mem_flatMap] at h
 obtain ⟨l,hl,h⟩:=h
 obtain ⟨hA,hB,_⟩:=R.ends e he
 have hf:=(fitB_iff _ _).1 (R.legs e he l hl)
 have hor:=R.hor
 have lA:lifeOf g e.1∈g.lives:=by
   unfold lifeOf
   rw [List.getD_eq_getElem?_getD,List.getElem?_eq_getElem (show e.1.toNat<g.lives.length by omega)]
   exact List.getElem_mem _
 have lB:lifeOf g e.2.1∈g.lives:=by
   unfold lifeOf
   rw [List.getD_eq_getElem?_getD,List.getElem?_eq_getElem (show e.2.1.toNat<g.lives.length by omega)]
   exact List.getElem_mem _
 have fA:=R.life _ lA
 have fB:=R.life _ lB
 have hp:0 <= priceOf p (e.1,e.2.1,l.2.2.2) /\ priceOf p (e.1,e.2.1,l.2.2.2) <= 1000:=by
   unfold priceOf
   split
   · omega
   · split
     · simp only;omega
     · omega
 unfold pthsL at h
 split at h
 · cases h
 · rename_i hlt
   have key:GoodPt g.lives.length (pthOf g p e l) /\ GoodPt g.lives.length ((pthOf g p e l).2.1,(pthOf g p e l).1,(pthOf g p e l).2.2):=by
     unfold pthOf at hlt ⊢
     unfold GoodPt
     simp only at hlt ⊢
     refine ⟨⟨hA,hB,⟨by omega,by omega,by omega⟩,hp⟩,hB,hA,⟨by omega,by omega,by omega⟩,hp⟩
   split at h
   · simp only [List.mem_cons,List.not_mem_nil,or_false] at h
     rcases h with rfl | rfl
     · exact key.1
     · exact key.2
   · rw [List.mem_singleton] at h
     subst h
     exact key.1
theorem heard_is {g:Gr} (h0:gChk g=0) {p:Nat} {fr:Int} {r:Nat} {N H:Nat -> List (Int×Int×Int)} {W:Nat} {M:Nat -> Nat -> List (Int×Int×Int)} (hW:1 <= W) (hN:NewsIs g p fr r N)
   (hM:∀j,j<W -> ∀v,v<g.lives.length -> ∀t,tel (M j v) t=sndF N (j:Int) (W:Int) (pathsF g p) (pathsF g p).length v t) (hc:∀v,v<g.lives.length -> MCan (H v)) (hH:∀v,v<g.lives.length -> ∀t,tel (H v) t=togF M W v t):HeardIs g p fr r H:=by
 have al:∀π∈pathsF g p,∀t,alongF N π t=if π.2.2.1 <= t /\ t<π.2.2.2.1 then (nwX g p fr r t π.1.toNat).map (·+π.2.2.2.2) else none:=by
   intro π hπ t
   have hg:=paths_good h0 hπ
   unfold alongF
   rw [(hN π.1.toNat (by have:=hg.1;omega)).2 t]
 refine ⟨hc,fun π hπ t h1 h2 z hz=> ?_,fun v hv t h e=> ?_⟩
 · have hg:=paths_good h0 hπ
   have ha:alongF N π t=some (z+π.2.2.2.2):=by rw [al π hπ t,if_pos ⟨h1,h2⟩,hz];rfl
   obtain ⟨i,hi,rfl⟩:=List.getElem_of_mem hπ
   have hgd:(pathsF g p).getD i pt0=(pathsF g p)[i]:=by rw [List.getD_eq_getElem?_getD,List.getElem?_eq_getElem hi];rfl
   have hb:=hg.2.1
   have ha0:=hg.1
   have hj:((pathsF g p)[i].1%(W:Int)).toNat<W:=by
     have h1:=Int.emod_nonneg (pathsF g p)[i].1 (show (W:Int)≠0 by omega)
     have h2:=Int.emod_lt_of_pos (pathsF g p)[i].1 (show (0:Int)<W by omega)
     omega
   have hj2:((((pathsF g p)[i].1%(W:Int)).toNat:Nat):Int)=(pathsF g p)[i].1%(W:Int):=by
     have h1:=Int.emod_nonneg (pathsF g p)[i].1 (show (W:Int)≠0 by omega)
     omega
   have hv:(pathsF g p)[i].2.1.toNat<g.lives.length:=by omega
   rw [hH _ hv t]
   refine tog_most M _ t _ (i:=((pathsF g p)[i].1%(W:Int)).toNat) ?_ W hj
   rw [hM _ hj _ hv t,hj2]
   exact snd_most N _ _ _ _ t _ (i:=i) (by rw [hgd]) (by rw [hgd];omega) (by rw [hgd];exact ha) _ hi
 · rw [hH v hv t] at e
   obtain ⟨j,hj,e⟩:=tog_from M v t h W e
   rw [hM j hj v hv t] at e
   obtain ⟨i,hi,h1,h2,h3⟩:=snd_from N _ _ _ v t h _ e
   have hgd:(pathsF g p).getD i pt0=(pathsF g p)[i]:=by rw [List.getD_eq_getElem?_getD,List.getElem?_eq_getElem hi];rfl
   rw [hgd] at h2 h3
   have hπ:(pathsF g p)[i]∈pathsF g p:=List.getElem_mem hi
   rw [al _ hπ t] at h3
   split at h3
   · rename_i hc
     cases hz:nwX g p fr r t (pathsF g p)[i].1.toNat with
     | none=>rw [hz] at h3;cases h3
     | some z=>
       rw [hz] at h3
       simp only [Option.map_some,Option.some.injEq] at h3
       exact ⟨_,hπ,by rw [h2];simp,hc.1,hc.2,z,hz,h3.symm⟩
   · cases h3
open Go.RowKit
def ptV (π:Pt):Value:= .agg #[.int .i64 π.1,.int .i64 π.2.1,.int .i64 π.2.2.1,.int .i64 π.2.2.2.1,.int .i64 π.2.2.2.2]
theorem ivAt_oneB (w:World) (B:Nat) (t:TypeId) (p:Int×Int) (hB:B=w.heap.size):IvAt (w.alloc (.cells #[.int .i64 p.1,.int .i64 p.2] t)) (some ⟨B,0,none⟩) [p]:=by
 subst hB
 refine .inr ⟨w.heap.size,0,rfl,by simp,fun j hj=> ?_⟩
 have:j=0:=by simpa using hj
 subst this
 exact ⟨by simp,by simp⟩
theorem add_step {r0 m:List P3} {k:Nat} {d:Int} (hk:k<r0.length) (hm:m=addM (r0.take k) d++r0.drop k):∃h:k<m.length,m[k]=r0[k] /\ m.set k (r0[k].1,r0[k].2.1,r0[k].2.2+d)=addM (r0.take (k+1)) d++r0.drop (k+1):=by
 have hl:(addM (r0.take k) d).length=k:=by unfold addM;rw [List.length_map,List.length_take];omega
 have hd:r0.drop k=r0[k]::r0.drop (k+1):=(List.drop_eq_getElem_cons hk)
 have hm2:m.length=r0.length:=by rw [hm,List.length_append,hl,List.length_drop];omega
 refine ⟨by omega,?_,?_⟩
 · simp only [hm]
   rw [List.getElem_append_right (by omega)]
   simp [hl]
 · rw [hm,List.set_append_right _ _ (by omega),hl,Nat.sub_self,hd,List.set_cons_zero]
   have:r0.take (k+1)=r0.take k++[r0[k]]:=by rw [List.take_add_one];simp [hk]
   rw [this]
   unfold addM
   rw [List.map_append,List.append_assoc]
   rfl
set_option maxRecDepth 100000 in
set_option maxHeartbeats 4000000 in
theorem bsAlong_any (π:Pt) (ao:Option Addr) (cap:Nat) (m:List P3) (B:Int) (w:World) (hA:PcAt w ao m) (hS:Sm B m) (hB:B <= 500000) (hf:0 <= π.2.2.1 /\ π.2.2.1<π.2.2.2.1 /\ π.2.2.2.1 <= 100) (hd:0 <= π.2.2.2.2 /\ π.2.2.2.2 <= 1000):
   Calls Seq.prog 103 #[ptV π,.slice ao m.length cap] w fun r w' =>∃v k,r= .returned v /\ Sm (B+π.2.2.2.2) k /\ (∀t,tel k t=if π.2.2.1 <= t /\ t<π.2.2.2.1 then (tel m t).map (·+π.2.2.2.2) else none) /\ w'.ownsRow w.heap.size 54 3 v k.length (enc3 k) /\ Below w.heap.size w w':=by
 obtain ⟨pa,pb,f,t,d⟩:=π
 simp only at hf hd
 unfold ptV
 simp only
 obtain ⟨o1,ho1⟩:∃o,o=Obj.cells #[.int .i64 pa,.int .i64 pb,.int .i64 f,.int .i64 t,.int .i64 d] 130:=⟨_,rfl⟩
 have hK:=Keep_any ao (some ⟨(w.alloc o1).heap.size,0,none⟩) cap 1 m [(f,t)] ((w.alloc o1).alloc (.cells #[.int .i64 f,.int .i64 t] 95)) (hA.below (ptw (pal w _) (pal _ _))) (ivAt_oneB _ _ _ (f,t) rfl)
 have hK2:Calls Seq.prog 124 #[.slice ao m.length cap,.slice (some ⟨(w.alloc o1).heap.size,0,none⟩) 1 1] ((w.alloc o1).alloc (.cells #[.int .i64 f,.int .i64 t] 95)) fun e w' =>∃r v,e= .returned (.tuple #[v,.int .i64 0]) /\ Sm B r /\ (∀s,tel r s=if f <= s /\ s<t then tel m s else none) /\ w'.ownsRow (w.heap.size+2) 54 3 v r.length (enc3 r) /\ Below (w.heap.size+1) (w.alloc o1) w':=by
   refine hK.mono ?_
   rintro e w' ⟨n,r,hO,v,rfl,ho,hb⟩
   obtain ⟨rfl,h2,h3⟩:=sm_keep hS hf (by omega) hO
   have e2:((w.alloc o1).alloc (.cells #[.int .i64 f,.int .i64 t] 95)).heap.size=w.heap.size+2:=by simp
   refine ⟨r,v,rfl,h2,h3,by rw [<- e2];exact ho,?_⟩
   have:=ptw (pal (w.alloc o1) (.cells #[.int .i64 f,.int .i64 t] 95)) hb
   have e1:(w.alloc o1).heap.size=w.heap.size+1:=by simp
   rw [e1] at this
   exact this
 have HB0:=hideg (pal w o1)
 clear hK hS hA
 generalize m.length=ml at*
 subst ho1
 have hsz1:(w.alloc (Obj.cells #[.int .i64 pa,.int .i64 pb,.int .i64 f,.int .i64 t,.int .i64 d] 130)).heap.size=w.heap.size+1:=by simp
 rw [hsz1] at hK2
 clear hsz1
 go_enter Seq.func103,Tryz.ntmps103
 go_wp2_with fail
 refine hK2.mono ?_
 rintro e w3 ⟨r0,v0,rfl,hS0,hT0,ho,hb⟩
 have hb3:=hideg hb
 have HS0:=hideg hS0
 have HT0:=hideg hT0
 obtain ⟨a0,c0,rfl,hp0⟩:=pcAt_of_owns ho
 have hl0:=hS0.len (by omega)
 clear hK2 hb hp0 hT0
 obtain ⟨n,hn⟩:∃n,n=r0.length:=⟨_,rfl⟩
 rw [<- hn] at ho hl0 ⊢
 have HN:=hideg hn
 have hvl:Hid (∀q∈r0,0 <= q.2.2 /\ q.2.2 <= B):=hS0.vals
 have HO:=hideg ho
 clear hn hS0 ho
 go_wp2
 go_loopw [21] (fun i wr=>∃(k:Nat) (x:List P3),k <= n /\ i= .int .i64 k /\ x=addM (r0.take k) d++r0.drop k /\ wr.ownsRow (w.heap.size+2) 54 3 (.slice a0 n c0) n (enc3 x) /\ Below (w.heap.size+1) (w.alloc (Obj.cells #[.int .i64 pa,.int .i64 pb,.int .i64 f,.int .i64 t,.int .i64 d] 130)) wr) (fun i _=>n-(intOf i).toNat)
 case atStart=>exact ⟨0,r0,Nat.zero_le _,rfl,by simp [addM],HO.out,hb3.out⟩
 case round=>
   clear HO hb3
   obtain ⟨k,x,hk,rfl,hx,hown,hb⟩:=hrel
   by_cases hlt:k<n
   · have hlt2:k<r0.length:=by rw [<- HN.out];exact hlt
     obtain ⟨hk2,hxk,hset⟩:=add_step hlt2 hx
     obtain ⟨b,c,e⟩:=own_slice hown (by omega)
     simp only [Value.slice.injEq] at e
     obtain ⟨rfl,_,rfl⟩:=e
     have hq:=hvl.out _ (List.getElem_mem hlt2)
     have hE:=enc3_set2 x k (r0[k].2.2+d) hk2
     rw [hxk,hset] at hE
     have hblt:=(hown.lt b rfl)
     have zc:wr.cell? ⟨b,k*3+2,none⟩=some (.int .i64 r0[k].2.2):=by
       rw [hown.cellAt (k*3+2) (by omega)]
       have:=(flat3_getD x k hk2).2.2
       unfold enc3
       rw [List.getElem?_map,this,List.getD_eq_getElem?_getD,List.getElem?_eq_getElem hk2,Option.getD_some,hxk]
       rfl
     have q4:wr.cell? ⟨w.heap.size,4,none⟩=some (.int .i64 d):=by rw [hb.cell (p:=⟨w.heap.size,4,none⟩) (by simp)];simp
     have hw:IntKind.i64.wrap (r0[k].2.2+d)=r0[k].2.2+d:=wrap_small _ (by omega) (by omega)
     have HE:=hideg hE
     have HX:=hideg hx
     have hsz:=hb.size
     simp only [World.size_alloc] at hsz
     clear hE hxk hset hx hq
     generalize r0[k].2.2=z at*
     clear hlt2 hk2
     have hne2:Nonempty (HeldIn wr):=⟨⟨_,Below.refl _ _⟩⟩
     have f0:∀s:HeldIn wr,s.w.cell? ⟨b,k*3+2,none⟩=some (.int .i64 z):=fun s=>by rw [s.h.cell (p:=⟨b,k*3+2,none⟩) hblt.2];exact zc
     have f1:∀s:HeldIn wr,s.w.cell? ⟨w.heap.size,4,none⟩=some (.int .i64 d):=fun s=>by rw [s.h.cell (p:=⟨w.heap.size,4,none⟩) (by show w.heap.size<_;omega)];exact q4
     have HQ:Hid (∀s:HeldIn wr,s.w.ownsRow (w.heap.size+2) 54 3 (.slice (some ⟨b,0,none⟩) n c0) n (enc3 x) /\ Below (w.heap.size+1) (w.alloc (Obj.cells #[.int .i64 pa,.int .i64 pb,.int .i64 f,.int .i64 t,.int .i64 d] 130)) s.w):=fun s=>⟨ownsRow_below hown s.h,hb.trans (s.h.mono (by omega))⟩
     have hki:(k:Int)<(n:Int):=by omega
     clear hown hb zc q4
     go_wp2_with fail
     refine wp_region_held_back _ (Below.refl _ _) (by kernel_rfl) (by simp) (by kernel_rfl) (by kernel_rfl) (by kernel_rfl) ?_
     simp only [List.pop_toArray,List.dropLast,List.back!_toArray,List.getLast!]
     repeat (go_big_quiet_step (fail))
     refine wpQuiet_nil ?_
     rintro _ ⟨s,rfl⟩
     refine back_last (fun K hK=> ?_)
     have k0:=f0 s
     obtain ⟨ho4,hb4⟩:=HQ.out s
     have fz:=World.ownsRow.frozenAt ho4 (k*3+2)
     have hgl4:=(World.ownsRow.lt ho4 b rfl)
     clear f0 f1 hne2 HQ
     generalize s.w=w4 at*
     clear s
     go_simp
     refine hK.out _ _ ?_
     clear hK K
     have ho5:=(ho4.stored (k*3+2) (.int .i64 (z+d))).1
     rw [HE.out] at ho5
     have HO5:=hideg ho5
     have HB5:=hideg (hb4.setCell (p:=⟨b,k*3+2,none⟩) (by show w.heap.size+1 <= b;omega) (.int .i64 (z+d)))
     clear ho5 ho4 hb4
     go_wp2
     go_roundw
     case rel=>exact ⟨k+1,_,by omega,by go_num,rfl,HO5.out,HB5.out⟩
     case measure=>simp [intOf];omega
   · have hkn:k=n:=by omega
     have e1:x=addM r0 d:=by
       rw [hx,hkn,HN.out,List.take_length,List.drop_length,List.append_nil]
     subst hkn
     have HR:Hid (∃v k',Value.slice a0 k c0=v /\ Sm (B+d) k' /\ (∀t',tel k' t' =if f <= t' /\ t' <t then (tel m t').map (·+d) else none) /\ wr.ownsRow w.heap.size 54 3 v k'.length (enc3 k')):=by
       refine ⟨_,addM r0 d,rfl,sm_add HS0.out hd.1,fun t' => ?_,?_⟩
       · rw [addM_tel,HT0.out t']
         split<;>rfl
       · rw [<- e1]
         have:x.length=k:=by rw [e1];unfold addM;rw [List.length_map,<- HN.out]
         rw [this]
         exact owns_base2 hown (by omega)
     have HBF:Hid (Below w.heap.size w wr):=HB0.out.trans (hb.mono (by omega))
     clear hx e1 hown hb
     go_wp2
     go_ret
     obtain ⟨v,k',rfl,h1,h2,h3⟩:=HR.out
     exact ⟨_,k',rfl,h1,h2,h3,HBF.out⟩
open Go
def lastX (ops:Array Oper) (st:Oper) (x:Nat):Bool:=st.guard.isNone&&(st.after.all (fun e=> !Region.binds .any e||decide (e.on<ops.size))&&(List.range ops.size).all fun j=>
 j==x||(st.after.any (fun e=>Region.binds .any e&&e.on==j)||(List.range ops.size).any fun k=>decide (j<k)&&(k !=x&&match ops[k]? with
   | some o=>o.after.any fun e=>Region.binds .any e&&e.on==j
   | none=>false)))
def isExt (o:Oper):Bool:=match o.op with
 | .extract _ _=>true
 | _=>false
theorem ext_runs {P:Program} {o:Oper} (h:isExt o=true) (a:Act):(∃v,∀w,(execOp a.eval o).run P w= .ok (.value v) w) \/ (∀w,∃s,(execOp a.eval o).run P w= .halt (.stuck s) w):=by
 unfold isExt at h
 split at h
 · rename_i t ix hop
   simp only [execOp,hop]
   cases hv:a.eval t<;>simp [Instr.extract]
   rename_i vs
   cases hx:vs[ix]? with
   | some u=>exact .inl ⟨u,fun w=>by simp⟩
   | none=>exact .inr fun w=>by simp
 · cases h
theorem ext_asks {P:Program} {o:Oper} (h:isExt o=true) (a:Act) (w:World):¬o.asks P a w:=by
 unfold isExt at h
 split at h
 · rename_i t ix hop
   intro hh
   have h1:=hh.1
   have h2:((execOp a.eval o).runT P w #[]).2=#[]:=by
     simp only [execOp,hop]
     cases hv:a.eval t
     case tuple vs=>
       cases hx:vs[ix]? with
       | none=>simp only [Instr.extract,hx];rfl
       | some u=>simp only [Instr.extract,hx];rfl
     all_goals rfl
   rw [h2] at h1
   simp at h1
 · cases h
theorem ext_wp {P:Program} {o:Oper} (h:isExt o=true) {a:Act} {w:World} {K:Act -> World -> Prop} {Q:Exit -> Act -> World -> Prop} (hw:o.wp P a w K Q):∃v,(∀w,(execOp a.eval o).run P w= .ok (.value v) w) /\ K (a.put o.dst v) w:=by
 rcases ext_runs (P:=P) h a with ⟨v,hv⟩ | hv
 · refine ⟨v,hv,?_⟩
   unfold Oper.wp at hw
   rw [hv w] at hw
   exact hw
 · obtain ⟨s,hs⟩:=hv w
   unfold Oper.wp at hw
   rw [hs] at hw
   exact hw.elim
theorem last_waitsX {ops:Array Oper} {st:Oper} {x:Nat} {listed:Array Bool} (hl:lastX ops st x=true) (hc:Closed ops listed) (hsz:listed.size=ops.size) (hs:∀e∈st.after,Region.binds .any e=true -> e.on<ops.size -> listed.getD e.on false=true):∀d j,j+d=ops.size -> j<ops.size -> j≠x -> listed.getD j false=true:=by
 simp only [lastX,Bool.and_eq_true] at hl
 intro d
 induction d using Nat.strongRecOn with
 | _ d ih=>
   intro j hd hj hjx
   have h1:=List.all_eq_true.1 hl.2.2 j (List.mem_range.2 hj)
   rw [Bool.or_eq_true,Bool.or_eq_true] at h1
   rcases h1 with h1 | h1 | h1
   · exact absurd (by simpa using h1) hjx
   · obtain ⟨e,he,h2⟩:=arr_any h1
     rw [Bool.and_eq_true,beq_iff_eq] at h2
     rw [<- h2.2]
     exact hs e he h2.1 (by rw [h2.2];exact hj)
   · obtain ⟨k,hk,h2⟩:=List.any_eq_true.1 h1
     rw [List.mem_range] at hk
     rw [Bool.and_eq_true,Bool.and_eq_true,decide_eq_true_eq] at h2
     have ho:ops[k]? =some ops[k]:=Array.getElem?_eq_getElem hk
     simp only [ho] at h2
     obtain ⟨e,he,h3⟩:=arr_any h2.2.2
     rw [Bool.and_eq_true,beq_iff_eq] at h3
     have hkl:=ih (d-(k-j)) (by omega) k (by omega) hk (by simpa using h2.2.1)
     rw [<- h3.2]
     refine hc k _ ho ?_ e he h3.1
     have hk' :k<listed.size:=by omega
     simpa [hk'] using hkl
theorem ready_pushX {ops:Array Oper} {st:Oper} {x:Nat} {listed:Array Bool} (hf:fwdB ops=true) (hl:lastX ops st x=true) (hc:Closed ops listed) (hsz:listed.size=ops.size) {z:Nat} (hz:z<ops.size) (hzx:z≠x) (hzu:listed.getD z false=false) (i:Nat):
   i∈Region.ready .any (ops.push st) (listed.push false)↔i∈Region.ready .any ops listed:=by
 rw [mem_ready,mem_ready]
 rcases Nat.lt_trichotomy i ops.size with hi | hi | hi
 · rw [getD_push true (by omega),getElem_pushO hi]
   refine and_congr_right fun _=>exists_congr fun o=>and_congr_right fun ho=>forall_congr' fun e=>forall_congr' fun he=>forall_congr' fun hb=> ?_
   have:=(fwd_spec hf ho).2 e he hb
   rw [getD_push false (by omega)]
 · subst hi
   constructor
   · rintro ⟨_,o,ho,hall⟩
     have ho' :o=st:=by
       rw [Array.getElem?_push,if_pos rfl] at ho
       exact (Option.some.inj ho).symm
     subst ho'
     exfalso
     have hall2:=last_waitsX hl hc hsz (fun e he hb hlt=>by have:=hall e he hb;rwa [getD_push false (by omega)] at this)
     have:=hall2 (ops.size-z) z (by omega) hz hzx
     rw [hzu] at this
     cases this
   · rintro ⟨_,o,ho,_⟩
     rw [Array.getElem?_eq_none (Nat.le_refl _)] at ho
     cases ho
 · constructor
   · rintro ⟨_,o,ho,_⟩
     rw [Array.getElem?_eq_none (by simp;omega)] at ho
     cases ho
   · rintro ⟨_,o,ho,_⟩
     rw [Array.getElem?_eq_none (by omega)] at ho
     cases ho
theorem ready_lastX {ops:Array Oper} {st:Oper} {x:Nat} {listed:Array Bool} (hl:lastX ops st x=true) (hsz:listed.size=ops.size) (hall:∀j,j<ops.size -> listed.getD j false=true) (i:Nat):
   i∈Region.ready .any (ops.push st) (listed.push false)↔i=ops.size:=by
 rw [mem_ready]
 simp only [lastX,Bool.and_eq_true] at hl
 rcases Nat.lt_trichotomy i ops.size with hi | hi | hi
 · have h1:=hall i hi
   have hi' :i<listed.size:=by omega
   constructor
   · rintro ⟨h0,_⟩
     rw [getD_push true hi'] at h0
     simp [hi'] at h0 h1
     rw [h0] at h1
     cases h1
   · intro h;omega
 · subst hi
   refine ⟨fun _=>rfl,fun _=>⟨by simp [<- hsz],st,by rw [Array.getElem?_push,if_pos rfl],fun e he hb=> ?_⟩⟩
   have h2:=Array.all_eq_true_iff_forall_mem.1 hl.2.1 e he
   rw [hb] at h2
   have h3:e.on<ops.size:=by simpa using h2
   rw [getD_push false (by omega)]
   exact hall e.on h3
 · constructor
   · rintro ⟨_,o,ho,_⟩
     rw [Array.getElem?_eq_none (by simp;omega)] at ho
     cases ho
   · intro h;omega
theorem push_set {listed:Array Bool} {i:Nat} (hi:i<listed.size):(listed.push false).setIfInBounds i true=(listed.setIfInBounds i true).push false:=by
 apply Array.ext_getElem?
 intro k
 rw [Array.getElem?_setIfInBounds,Array.getElem?_push,Array.getElem?_push,Array.getElem?_setIfInBounds]
 by_cases h3:i=k
 · subst h3
   simp [hi,Nat.ne_of_lt hi]
   omega
 · simp [h3]
theorem pop_soundX {P:Program} {ops:Array Oper} {st ox:Oper} {x:Nat} {Q:Exit -> Act -> World -> Prop} (hf:fwdB ops=true) (hl:lastX ops st x=true) (hx:ops[x]? =some ox) (hext:isExt ox=true) (hap:ox.apart (ops.push st) st=true) (hsel:Region.noSelect (ops.push st)=true) (hQ:∀c a w,¬Q (.panic c) a w):∀(fuel:Nat) (listed:Array Bool) (a:Act) (w:World),listed.size=ops.size -> Closed ops listed ->
   wpAny P .any ops (BackQ P st Q) fuel listed a w -> wpAny P .any (ops.push st) Q (fuel+1) (listed.push false) a w:=by
 have hxlt:x<ops.size:=(Array.getElem?_eq_some_iff.1 hx).1
 have hgd:st.guard=none:=by
   simp only [lastX,Bool.and_eq_true,Option.isNone_iff_eq_none] at hl
   exact hl.1
 have fin:∀(fuel:Nat) (listed:Array Bool) (a:Act) (w:World),listed.size=ops.size -> Region.ready .any ops listed=[] -> BackQ P st Q .normal a w -> wpAny P .any (ops.push st) Q (fuel+1) (listed.push false) a w:=by
   intro fuel listed a w hsz hr hq
   have hall:=all_listed hf hsz hr
   refine ⟨fun h=> ?_,fun i hi=> ?_⟩
   · have:=(ready_lastX (st:=st) hl hsz hall ops.size).2 rfl
     rw [h] at this
     cases this
   · rw [ready_lastX hl hsz hall] at hi
     subst hi
     have ho:(ops.push st)[ops.size]? =some st:=by rw [Array.getElem?_push,if_pos rfl]
     unfold wpOp
     simp only [ho,Region.wanted,hgd,if_true]
     refine .inl (Oper.wp_mono (fun a' w' h=> ?_) hq)
     have hd:=ready_done (st:=st) hsz hall
     cases fuel with
     | zero=>exact ⟨hd,h⟩
     | succ n=>exact ⟨fun _=>h,by rw [hd];simp⟩
 intro fuel
 induction fuel with
 | zero=>
   intro listed a w hsz hc h
   exact fin 0 listed a w hsz h.1 h.2
 | succ fuel ih=>
   intro listed a w hsz hc h
   by_cases hr:Region.ready .any ops listed=[]
   · exact fin (fuel+1) listed a w hsz hr (h.1 hr)
   have hcl:∀{i:Nat} {o:Oper},ops[i]? =some o -> (∀e∈o.after,Region.binds .any e=true -> listed.getD e.on false=true) -> Closed ops (listed.setIfInBounds i true):=by
     intro i o ho hdep j oj hoj hlj e he hb
     by_cases hij:i=j
     · subst hij
       rw [ho] at hoj
       cases hoj
       exact getD_set_true (hdep e he hb)
     · rw [getD_set_ne true hij] at hlj
       exact getD_set_true (hc j oj hoj hlj e he hb)
   by_cases hone:∃z,z<ops.size /\ z≠x /\ listed.getD z false=false
   · obtain ⟨z,hz,hzx,hzu⟩:=hone
     have RP:=ready_pushX hf hl hc hsz hz hzx hzu
     refine ⟨fun h0=> ?_,fun i hi=> ?_⟩
     · exfalso
       apply hr
       apply List.eq_nil_iff_forall_not_mem.2
       intro j hj
       have:=(RP j).2 hj
       rw [h0] at this
       cases this
     · have hi':=(RP i).1 hi
       have h1:=h.2 i hi'
       obtain ⟨hun,o,ho,hdep⟩:=mem_ready.1 hi'
       have hilt:i<ops.size:=(Array.getElem?_eq_some_iff.1 ho).1
       have ho' :(ops.push st)[i]? =some o:=by rw [getElem_pushO hilt];exact ho
       have hg:=(fwd_spec hf ho).1
       unfold wpOp at h1 ⊢
       simp only [ho,ho',Region.wanted,hg,if_true] at h1 ⊢
       rw [push_set (by omega)]
       refine h1.imp (fun hh=>wp_back (fun a' w' hk=>ih _ a' w' (by simpa using hsz) (hcl ho hdep) hk) hh) (fun hh=>⟨hh.1,hh.2⟩)
   · have hall:∀j,j<ops.size -> j≠x -> listed.getD j false=true:=by
       intro j hj hjx
       cases e:listed.getD j false with
       | true=>rfl
       | false=>exact absurd ⟨j,hj,hjx,e⟩ hone
     have hxu:listed.getD x true=false:=by
       cases e:listed.getD x true with
       | false=>rfl
       | true=>
         exfalso
         apply hr
         apply List.eq_nil_iff_forall_not_mem.2
         intro j hj
         obtain ⟨h0,o,hoj,_⟩:=mem_ready.1 hj
         have hjlt:j<ops.size:=(Array.getElem?_eq_some_iff.1 hoj).1
         have hj' :j<listed.size:=by omega
         by_cases hjx:j=x
         · subst hjx;rw [h0] at e;cases e
         · have h1:=hall j hjlt hjx
           simp [hj'] at h0 h1
           rw [h0] at h1
           cases h1
     have hg:=(fwd_spec hf hx).1
     have hdepx:∀e∈ox.after,Region.binds .any e=true -> listed.getD e.on false=true:=fun e he hb=>by
       have:=(fwd_spec hf hx).2 e he hb
       exact hall e.on (by omega) (by omega)
     have hrx:x∈Region.ready .any ops listed:=mem_ready.2 ⟨hxu,ox,hx,hdepx⟩
     have h1:=h.2 x hrx
     unfold wpOp at h1
     simp only [hx,Region.wanted,hg,if_true] at h1
     have h2:ox.wp P a w (wpAny P .any ops (BackQ P st Q) fuel (listed.setIfInBounds x true)) (BackQ P st Q):=by
       rcases h1 with h1 | h1
       · exact h1
       · exact absurd h1.1 (ext_asks hext a w)
     obtain ⟨v,hv,hk⟩:=ext_wp hext h2
     have h3:=ih _ _ _ (by simpa using hsz) (hcl hx hdepx) hk
     rw [<- push_set (by omega)] at h3
     refine wpAny_first (i:=x) (oi:=ox) (v:=v) (by rw [getElem_pushO hxlt];exact hx) (Region.noSelect_spec hsel) (fun c a w hq=>absurd hq (hQ _ _ _)) (fuel+1) (listed.push false) a w ?_ ?_ (.inl ⟨by simp [Region.wanted,hg],hv⟩) h3
     · intro j oj hoj hjx hju _
       by_cases hj:j<ops.size
       · have h4:=hall j hj hjx
         rw [getD_push true (by omega)] at hju
         have hj' :j<listed.size:=by omega
         simp [hj'] at hju h4
         rw [hju] at h4
         cases h4
       · have hjlt:j<ops.size+1:=by simpa using (Array.getElem?_eq_some_iff.1 hoj).1
         have:j=ops.size:=by omega
         subst this
         rw [Array.getElem?_push,if_pos rfl] at hoj
         cases hoj
         exact hap
     · rw [mem_ready]
       refine ⟨by rw [getD_push true (by omega)];exact hxu,ox,by rw [getElem_pushO hxlt];exact hx,fun e he hb=> ?_⟩
       have:=(fwd_spec hf hx).2 e he hb
       rw [getD_push false (by omega)]
       exact hdepx e he hb
theorem wp_region_backX {P:Program} (x:Nat) {id:Nat} {full:Array Oper} {Q:Exit -> Act -> World -> Prop} {S:World -> Prop} {a:Act} {w:World} (hm:P.follows .mixedOrders=true) (hn:0<full.size) (hf:fwdB full.pop=true) (hl:lastX full.pop full.back! x=true) (hx:(match full.pop[x]? with | some o=>isExt o&&o.apart full full.back! | none=>false)=true) (hsel:Region.noSelect full=true) (hS:S w.drew)
   (h:S w.drew -> wpAnyH P .any full.pop (BackQ P full.back! (NoPanic Q)) S full.pop.size (Array.replicate full.pop.size false) a w.drew):(Code.region id full true).wp P Q a w:=by
 refine wp_region_noPanic ?_
 have e:full=full.pop.push full.back! :=(Array.eq_push_pop_back!_of_size_ne_zero (by omega))
 generalize full.pop=ops at*
 generalize full.back! =st at*
 subst e
 refine wp_region_any hm ?_
 have h1:=wpAny_of_held _ _ _ _ (h hS)
 cases hxo:ops[x]? with
 | none=>rw [hxo] at hx;cases hx
 | some ox=>
   rw [hxo] at hx
   simp only [Bool.and_eq_true] at hx
   have h2:=pop_soundX hf hl hxo hx.1 hx.2 hsel (fun c a w h=>h) ops.size _ a w.drew (by simp) (by
     intro j o hj hlj
     have:j<ops.size:=(Array.getElem?_eq_some_iff.1 hj).1
     simp [this] at hlj) h1
   have e1:(Array.replicate ops.size false).push false=Array.replicate (ops.push st).size false:=by
     apply Array.ext
     · simp
     · intro k h1 h2
       simp [Array.getElem_push]
   rw [e1] at h2
   have e2:(ops.push st).size=ops.size+1:=by simp
   rw [e2] at h2 ⊢
   exact h2
structure FarB (go:Nat) (w w' :World):Prop where
 size:w.heap.size <= w'.heap.size
 block:∀b,b<w.heap.size -> b≠go -> w'.heap[b]? =w.heap[b]?
theorem FarB.refl (go:Nat) (w:World):FarB go w w:=⟨Nat.le_refl _,fun _ _ _=>rfl⟩
theorem FarB.below {go:Nat} {w w' w'' :World} (h:FarB go w w') (hb:Below w'.heap.size w' w''):FarB go w w'':=⟨Nat.le_trans h.size hb.size,fun b h1 h2=>(hb.block b (Nat.lt_of_lt_of_le h1 h.size)).trans (h.block b h1 h2)⟩
theorem FarB.set {go:Nat} {w w' :World} (h:FarB go w w') (j:Nat) (u:Value):FarB go w (w'.setCell ⟨go,j,none⟩ u):=⟨by simpa [World.setCell] using h.size,fun b h1 h2=>by rw [Below.heap_setCell _ _ _ _ (fun e=>h2 e)];exact h.block b h1 h2⟩
theorem AM.setFar {W:World} {base go n:Nat} {val:Nat -> Value} {pcs:Nat -> List P3} (A:AM W base go n val pcs) {g j:Nat} {u:Value} (h:g<base):AM (W.setCell ⟨g,j,none⟩ u) base go n val pcs:=by
 refine ⟨ownsRow_setBox A.own (fun e=> ?_),fun v hv=>ownsRow_setBox (A.inn v hv) (fun e=> ?_),A.ap⟩
 · have:=(A.own.lt _ e).1;omega
 · have:=((A.inn v hv).lt _ e).1;omega
set_option maxRecDepth 100000 in
set_option maxHeartbeats 4000000 in
theorem bsTake_any (base go n cap base2 go2 cap2:Nat) (val val2:Nat -> Value) (T N:Nat -> List P3) (B:Int) (hB:B <= 1000000) (hn:n <= 12) (w:World) (hT:AM w base go n val T) (hN:AM w base2 go2 n val2 N) (hg:go<base2) (hTs:∀v,v<n -> Sm B (T v)) (hNs:∀v,v<n -> Sm B (N v)):
   Calls Seq.prog 56 #[.slice (some ⟨go,0,none⟩) n cap,.slice (some ⟨go2,0,none⟩) n cap2] w fun r w' =>r= .returned (.tuple #[]) /\ ∃val' T',AM w' base go n val' T' /\ (∀v,v<n -> Sm B (T' v) /\ ∀t,tel (T' v) t=mrg 1 (tel (T v) t) (tel (N v) t)) /\ AM w' base2 go2 n val2 N /\ Below base w w' /\ FarB go w w':=by
 have HT0:=hideg hT
 have HN0:=hideg hN
 have HTs:=hideg hTs
 have HNs:=hideg hNs
 have hbg:Hid (base <= go):=(hT.own.lt go rfl).1
 clear hT hN hTs hNs
 go_enter Seq.func56,Tryz.ntmps56
 go_wp2
 go_loopw [7] (fun i wr=>∃(k:Nat) (va:Nat -> Value) (T' :Nat -> List P3),k <= n /\ i= .int .i64 k /\ AM wr base go n va T' /\ (∀v,v<n -> Sm B (T' v) /\ ∀t,tel (T' v) t=if v<k then mrg 1 (tel (T v) t) (tel (N v) t) else tel (T v) t) /\ AM wr base2 go2 n val2 N /\ Below base w wr /\ FarB go w wr) (fun i _=>n-(intOf i).toNat)
 case atStart=>exact ⟨0,val,T,Nat.zero_le _,rfl,HT0.out,fun v hv=>⟨HTs.out v hv,fun t=>by simp⟩,HN0.out,Below.refl _ _,FarB.refl _ _⟩
 case round=>
   clear HT0 HN0
   obtain ⟨k,va,T',hk,rfl,hA,hI,hA2,hb,hF⟩:=hrel
   have HA:=hideg hA
   have HA2:=hideg hA2
   have HI:=hideg hI
   have HB:=hideg hb
   have HF:=hideg hF
   clear hI hF
   by_cases hlt:k<n
   · have hki:(k:Int)<(n:Int):=by omega
     obtain ⟨a1,c1,ev,p1⟩:=pcAt_of_owns (hA.inn k hlt)
     obtain ⟨a2,c2,ev2,p2⟩:=pcAt_of_owns (hA2.inn k hlt)
     have x1:=hA.out hlt
     have x2:=hA2.out hlt
     rw [ev] at x1
     rw [ev2] at x2
     have hbd:Below wr.heap.size wr wr.drew:=(Below.refl _ _).drew
     have hM:Calls Seq.prog 15 #[.slice a1 (T' k).length c1,.slice a2 (N k).length c2,.int .i64 1] wr.drew fun e w' =>∃v r,e= .returned (.tuple #[v,.int .i64 0]) /\ Sm B r /\ (∀t,tel r t=mrg 1 (tel (T' k) t) (tel (N k) t)) /\ w'.ownsRow wr.heap.size 54 3 v r.length (enc3 r) /\ Below wr.heap.size wr w':=by
       refine (Merge_any 1 a1 a2 c1 c2 (T' k) (N k) wr.drew (p1.below hbd) (p2.below hbd)).mono ?_
       rintro e w' ⟨m,r,hO,v,rfl,ho,hb'⟩
       obtain ⟨rfl,h2,h3⟩:=sm_merge (HI.out k hlt).1 (HNs.out k hlt) hB hO
       exact ⟨v,r,rfl,h2,h3,ho,hbd.trans hb'⟩
     have HM:=hideg hM
     have l1:=(hA.own.lt go rfl).2
     have l2:=(hA2.own.lt go2 rfl).2
     have HAfter:Hid (∀w3,Below wr.heap.size wr w3 -> (w3.cell? ⟨go,k,none⟩=some (.slice a1 (T' k).length c1) /\ w3.cell? ⟨go2,k,none⟩=some (.slice a2 (N k).length c2))):=fun w3 h3=>
       ⟨(h3.cell (p:=⟨go,k,none⟩) l1).trans x1,(h3.cell (p:=⟨go2,k,none⟩) l2).trans x2⟩
     have SS:=HAfter.out _ hbd
     clear hA hA2 hM hb x1 x2 p1 p2 ev ev2 hbd
     go_wp2_with fail
     refine wp_region_backX 13 (S:=fun w' =>w'.cell? ⟨go,k,none⟩=some (.slice a1 (T' k).length c1) /\ w'.cell? ⟨go2,k,none⟩=some (.slice a2 (N k).length c2)) (by kernel_rfl) (by simp) (by kernel_rfl) (by kernel_rfl) (by kernel_rfl) (by kernel_rfl) SS (fun hHeld=> ?_)
     simp only [List.pop_toArray,List.dropLast,List.back!_toArray,List.getLast!]
     refine take_lit (i:=0) (v:= ?_) rfl (by kernel_rfl) (by kernel_rfl) (by kernel_rfl) (fun _ _ _ h=>h) (Or.inl ⟨by rfl,?hy0⟩) (by assumption) ?_
     case hy0=>(intro w hSw;(try dsimp only at hSw);go_simp;try with_reducible rfl)
     try simp only [Act.put,List.setIfInBounds_toArray,List.set_cons_zero,List.set_cons_succ]
     refine take_lit (i:=1) (v:= ?_) rfl (by kernel_rfl) (by kernel_rfl) (by kernel_rfl) (fun _ _ _ h=>h) (Or.inl ⟨by rfl,?hy1⟩) (by assumption) ?_
     case hy1=>(intro w hSw;(try dsimp only at hSw);go_simp;try with_reducible rfl)
     try simp only [Act.put,List.setIfInBounds_toArray,List.set_cons_zero,List.set_cons_succ]
     refine take_lit (i:=2) (v:= ?_) rfl (by kernel_rfl) (by kernel_rfl) (by kernel_rfl) (fun _ _ _ h=>h) (Or.inl ⟨by rfl,?hy2⟩) (by assumption) ?_
     case hy2=>(intro w hSw;(try dsimp only at hSw);go_simp;try with_reducible rfl)
     try simp only [Act.put,List.setIfInBounds_toArray,List.set_cons_zero,List.set_cons_succ]
     refine take_lit (i:=3) (v:= ?_) rfl (by kernel_rfl) (by kernel_rfl) (by kernel_rfl) (fun _ _ _ h=>h) (Or.inl ⟨by rfl,?hy3⟩) (by assumption) ?_
     case hy3=>(intro w hSw;(try dsimp only at hSw);go_simp;try with_reducible rfl)
     try simp only [Act.put,List.setIfInBounds_toArray,List.set_cons_zero,List.set_cons_succ]
     refine take_lit (i:=4) (v:= ?_) rfl (by kernel_rfl) (by kernel_rfl) (by kernel_rfl) (fun _ _ _ h=>h) (Or.inl ⟨by rfl,?hy4⟩) (by assumption) ?_
     case hy4=>(intro w hSw;(try dsimp only at hSw);go_simp;try with_reducible rfl)
     try simp only [Act.put,List.setIfInBounds_toArray,List.set_cons_zero,List.set_cons_succ]
     refine take_lit (i:=5) (v:= ?_) rfl (by kernel_rfl) (by kernel_rfl) (by kernel_rfl) (fun _ _ _ h=>h) (Or.inl ⟨by rfl,?hy5⟩) (by assumption) ?_
     case hy5=>(intro w hSw;(try dsimp only at hSw);go_simp;try with_reducible rfl)
     try simp only [Act.put,List.setIfInBounds_toArray,List.set_cons_zero,List.set_cons_succ]
     refine take_lit (i:=6) (v:= ?_) rfl (by kernel_rfl) (by kernel_rfl) (by kernel_rfl) (fun _ _ _ h=>h) (Or.inl ⟨by rfl,?hy6⟩) (by assumption) ?_
     case hy6=>(intro w hSw;(try dsimp only at hSw);go_simp;try with_reducible rfl)
     try simp only [Act.put,List.setIfInBounds_toArray,List.set_cons_zero,List.set_cons_succ]
     refine take_lit (i:=7) (v:= ?_) rfl (by kernel_rfl) (by kernel_rfl) (by kernel_rfl) (fun _ _ _ h=>h) (Or.inl ⟨by rfl,?hy7⟩) (by assumption) ?_
     case hy7=>(intro w hSw;(try dsimp only at hSw);go_simp;try with_reducible rfl)
     try simp only [Act.put,List.setIfInBounds_toArray,List.set_cons_zero,List.set_cons_succ]
     refine take_lit (i:=8) (v:= ?_) rfl (by kernel_rfl) (by kernel_rfl) (by kernel_rfl) (fun _ _ _ h=>h) (Or.inl ⟨by rfl,?hy8⟩) (by assumption) ?_
     case hy8=>(intro w hSw;(try dsimp only at hSw);go_simp;try with_reducible rfl)
     try simp only [Act.put,List.setIfInBounds_toArray,List.set_cons_zero,List.set_cons_succ]
     refine take_lit (i:=9) (v:= ?_) rfl (by kernel_rfl) (by kernel_rfl) (by kernel_rfl) (fun _ _ _ h=>h) (Or.inl ⟨by rfl,?hy9⟩) (by assumption) ?_
     case hy9=>(intro w hSw;(try dsimp only at hSw);go_simp;try with_reducible rfl)
     try simp only [Act.put,List.setIfInBounds_toArray,List.set_cons_zero,List.set_cons_succ]
     refine next_lit (i:=10) rfl (by kernel_rfl) (fun K hK=> ?_)
     go_simp
     refine HM.out.mono ?_
     rintro e w3 ⟨v3,r3,rfl,hs3,ht3,ho3,hb3⟩
     obtain ⟨a3,c3,rfl,_⟩:=pcAt_of_owns ho3
     have KK:=HAfter.out w3 hb3
     refine hK.out _ _ KK (fun hHeld=> ?_)
     clear hK K hHeld
     try simp only [Act.put,List.setIfInBounds_toArray,List.set_cons_zero,List.set_cons_succ]
     refine take_lit (i:=11) (v:= ?_) rfl (by kernel_rfl) (by kernel_rfl) (by kernel_rfl) (fun _ _ _ h=>h) (Or.inl ⟨by rfl,?hy11⟩) (by assumption) ?_
     case hy11=>(intro w hSw;(try dsimp only at hSw);go_simp;try with_reducible rfl)
     try simp only [Act.put,List.setIfInBounds_toArray,List.set_cons_zero,List.set_cons_succ]
     refine take_lit (i:=12) (v:= ?_) rfl (by kernel_rfl) (by kernel_rfl) (by kernel_rfl) (fun _ _ _ h=>h) (Or.inl ⟨by rfl,?hy12⟩) (by assumption) ?_
     case hy12=>(intro w hSw;(try dsimp only at hSw);go_simp;try with_reducible rfl)
     try simp only [Act.put,List.setIfInBounds_toArray,List.set_cons_zero,List.set_cons_succ]
     refine take_lit (i:=13) (v:= ?_) rfl (by kernel_rfl) (by kernel_rfl) (by kernel_rfl) (fun _ _ _ h=>h) (Or.inl ⟨by rfl,?hy13⟩) (by assumption) ?_
     case hy13=>(intro w hSw;(try dsimp only at hSw);go_simp;try with_reducible rfl)
     try simp only [Act.put,List.setIfInBounds_toArray,List.set_cons_zero,List.set_cons_succ]
     refine take_lit (i:=14) (v:= ?_) rfl (by kernel_rfl) (by kernel_rfl) (by kernel_rfl) (fun _ _ _ h=>h) (Or.inl ⟨by rfl,?hy14⟩) (by assumption) ?_
     case hy14=>(intro w hSw;(try dsimp only at hSw);go_simp;try with_reducible rfl)
     try simp only [Act.put,List.setIfInBounds_toArray,List.set_cons_zero,List.set_cons_succ]
     refine wpAnyH_done (by kernel_rfl) ?_ _
     refine back_last (fun K hK=> ?_)
     have A3:=HA.out.below hb3
     have fz3:=World.ownsRow.frozenAt A3.own k
     have x3:=KK.1
     have HS5:=hideg (HA.out.set hlt hb3 (by have:=HB.out.size;have:=hbg.out;omega) ho3)
     have HS6:=hideg ((HA2.out.below hb3).setFar (j:=k) (u:= .slice a3 r3.length c3) hg)
     have HB7:=hideg ((HB.out.trans (hb3.mono (by have:=hbg.out;omega))).setCell (p:=⟨go,k,none⟩) hbg.out (.slice a3 r3.length c3))
     have HF7:=hideg ((HF.out.below hb3).set k (.slice a3 r3.length c3))
     clear A3 KK
     go_simp
     refine hK.out _ _ (NoPanic.normal ?_)
     clear hK K
     have HI7:Hid (∀v,v<n -> Sm B (updF T' k r3 v) /\ ∀t,tel (updF T' k r3 v) t=if v<k+1 then mrg 1 (tel (T v) t) (tel (N v) t) else tel (T v) t):=by
       intro v hv
       by_cases e:v=k
       · subst e
         rw [updF_same]
         refine ⟨hs3,fun t=> ?_⟩
         rw [ht3 t,(HI.out v hv).2 t,if_neg (by omega),if_pos (by omega)]
       · rw [updF_far _ _ e]
         refine ⟨(HI.out v hv).1,fun t=> ?_⟩
         rw [(HI.out v hv).2 t]
         by_cases h:v<k
         · rw [if_pos h,if_pos (by omega)]
         · rw [if_neg h,if_neg (by omega)]
     clear ho3 hb3 hs3 ht3
     go_wp2
     go_roundw
     case rel=>exact ⟨k+1,_,_,by omega,by go_num,HS5.out,HI7.out,HS6.out,HB7.out,HF7.out⟩
     case measure=>simp [intOf];omega
   · have hkn:k=n:=by omega
     subst hkn
     clear hA hA2 hb
     go_wp2
     go_end0
     exact ⟨rfl,va,T',HA.out,fun v hv=>⟨(HI.out v hv).1,fun t=>by rw [(HI.out v hv).2 t,if_pos hv]⟩,HA2.out,HB.out,HF.out⟩
def BoxesAt (w:World) (ao:Option Addr) (W n:Nat) (M:Nat -> Nat -> List P3):Prop:=
 W=0 \/ ∃b off,ao=some ⟨b,off,none⟩ /\ b<w.heap.size /\ ∀j,j<W -> ∃a c,w.cell? ⟨b,off+j,none⟩=some (.slice a n c) /\ MsAt w a n (M j)
theorem BoxesAt.at1 {w:World} {ao:Option Addr} {W n:Nat} {M:Nat -> Nat -> List P3} (h:BoxesAt w ao W n M) {v:Nat} (hv:v<W):∃b off a c,ao=some ⟨b,off,none⟩ /\ b<w.heap.size /\ w.cell? ⟨b,off+v,none⟩=some (.slice a n c) /\ MsAt w a n (M v):=by
 rcases h with h | ⟨b,off,rfl,hlt,hc⟩
 · omega
 · obtain ⟨a,c,h1,h2⟩:=hc v hv
   exact ⟨b,off,a,c,rfl,hlt,h1,h2⟩
set_option maxRecDepth 100000 in
set_option maxHeartbeats 8000000 in
theorem bsTogether_any (ao:Option Addr) (W cap n:Nat) (M:Nat -> Nat -> List P3) (B:Int) (hB:B <= 1000000) (hn:n <= 12) (hW:W <= 1) (w:World) (hM:BoxesAt w ao W n M) (hS:∀j,j<W -> ∀v,v<n -> Sm B (M j v)):
   Calls Seq.prog 54 #[.slice ao W cap,.int .i64 n] w fun r w' =>∃val H,r= .returned (.slice (some ⟨w.heap.size,0,none⟩) n n) /\ AM w' w.heap.size w.heap.size n val H /\ (∀v,v<n -> Sm B (H v) /\ ∀t,tel (H v) t=togF M W v t) /\ Below w.heap.size w w':=by
 obtain ⟨i1,hi',hy0,hy1,hy2⟩:=info_parts Tryz.infoPcs
 have HS:=hideg hS
 have HM:=hideg hM
 clear hS hM
 go_enter Seq.func54,Tryz.ntmps54
 go_wp2_with (at_make;refine wpList_make_full _ rfl _ _ 99 rfl w.heap.size 41 i1 (.slice none 0 0) 1 ((Seq.pu 99).trans Tryz.underlying99) hi' hy0 hy1 .i64 .i64 _ _ n rfl rfl rfl rfl (by rw [hy2];omega) (by unfold maxLen;omega) (by simp) ?_;intro w0 hown0 hgrow0)
 have HA0:=hideg (am_start hown0)
 have HB0:Hid (Below w.heap.size w w0):=(Below.refl w.heap.size w).grown hgrow0 (Nat.le_refl _) (fun k hk=>by cases hk)
 clear hown0 hgrow0
 go_loopw [13] (fun i wr=>∃(j:Nat) (val:Nat -> Value) (H:Nat -> List P3),j <= W /\ i= .int .i64 j /\ AM wr w.heap.size w.heap.size n val H /\ (∀v,v<n -> Sm B (H v) /\ ∀t,tel (H v) t=togF M j v t) /\ Below w.heap.size w wr) (fun i _=>W-(intOf i).toNat)
 case atStart=>exact ⟨0,_,_,Nat.zero_le _,rfl,HA0.out,fun v hv=>⟨sm_nil B,fun t=>rfl⟩,HB0.out⟩
 case round=>
   clear HA0 HB0
   obtain ⟨j,val0,H0,hj,rfl,hA,hI,hb⟩:=hrel
   by_cases hjlt:j<W
   · have hji:(j:Int)<(W:Int):=by omega
     obtain ⟨b,off,a,c,rfl,hbl,c0,hm⟩:=HM.out.at1 hjlt
     have HMj:=hideg hm
     have c0:=(hb.cell (p:=⟨b,off+j,none⟩) hbl).trans c0
     have HA:=hideg hA
     have HI:=hideg hI
     have HB:=hideg hb
     clear hm hA hI hb
     go_wp2_with fail
     go_loopw [19] (fun i wr=>∃(k:Nat) (val:Nat -> Value) (H:Nat -> List P3),k <= n /\ i= .int .i64 k /\ AM wr w.heap.size w.heap.size n val H /\ (∀v,v<n -> Sm B (H v) /\ ∀t,tel (H v) t=if v<k then togF M (j+1) v t else togF M j v t) /\ Below w.heap.size w wr) (fun i _=>n-(intOf i).toNat)
     case atStart=>exact ⟨0,_,_,Nat.zero_le _,rfl,HA.out,fun v hv=>⟨(HI.out v hv).1,fun t=>by rw [(HI.out v hv).2 t];simp⟩,HB.out⟩
     case round=>
       clear HA HI HB c0
       obtain ⟨k,va,H,hk,rfl,hA,hI,hb⟩:=hrel
       have HA:=hideg hA
       have HI:=hideg hI
       have HB:=hideg hb
       clear hI
       by_cases hlt:k<n
       · have hki:(k:Int)<(n:Int):=by omega
         obtain ⟨bb,of,a2,c2,rfl,hbl2,y0,p2⟩:=(HMj.out.below hb).at1 hlt
         have HNX:Hid (∀r3:List P3,Sm B r3 -> (∀t,tel r3 t=mrg 1 (tel (H k) t) (tel (M j k) t)) -> ∀v,v<n -> Sm B (updF H k r3 v) /\ ∀t,tel (updF H k r3 v) t=if v<k+1 then togF M (j+1) v t else togF M j v t):=by
           intro r3 hs3 ht3 v hv
           by_cases e:v=k
           · subst e
             rw [updF_same]
             refine ⟨hs3,fun t=> ?_⟩
             rw [ht3 t,(HI.out v hv).2 t,if_neg (by omega),if_pos (by omega)]
             rfl
           · rw [updF_far _ _ e]
             refine ⟨(HI.out v hv).1,fun t=> ?_⟩
             rw [(HI.out v hv).2 t]
             by_cases h:v<k
             · rw [if_pos h,if_pos (by omega)]
             · rw [if_neg h,if_neg (by omega)]
         by_cases hz:(M j k).length=0
         · have HI2:Hid (∀v,v<n -> Sm B (H v) /\ ∀t,tel (H v) t=if v<k+1 then togF M (j+1) v t else togF M j v t):=by
             have e0:M j k=[]:=List.eq_nil_of_length_eq_zero hz
             have:=HNX.out (H k) (HI.out k hlt).1 (fun t=>by rw [e0,tel_nil,mrg_none])
             have eu:updF H k (H k)=H:=by
               funext v
               unfold updF
               by_cases e:v=k
               · subst e;simp
               · rw [if_neg e]
             rw [eu] at this
             exact this
           rw [hz] at y0
           clear hA hb hz p2 HNX
           go_wp2
           go_roundw
           case rel=>exact ⟨k+1,_,_,by omega,by go_num,HA.out,HI2.out,HB.out⟩
           case measure=>simp [intOf];omega
         · have hpos:(0:Int)<((M j k).length:Int):=by omega
           obtain ⟨a1,c1,ev,p1⟩:=pcAt_of_owns (hA.inn k hlt)
           have x1:=hA.out hlt
           rw [ev] at x1
           have hbd:Below wr.heap.size wr wr.drew:=(Below.refl _ _).drew
           have hM:Calls Seq.prog 15 #[.slice a1 (H k).length c1,.slice a2 (M j k).length c2,.int .i64 1] wr.drew fun e w' =>∃v r,e= .returned (.tuple #[v,.int .i64 0]) /\ Sm B r /\ (∀t,tel r t=mrg 1 (tel (H k) t) (tel (M j k) t)) /\ w'.ownsRow wr.heap.size 54 3 v r.length (enc3 r) /\ Below wr.heap.size wr w':=by
             refine (Merge_any 1 a1 a2 c1 c2 (H k) (M j k) wr.drew (p1.below hbd) (p2.below hbd)).mono ?_
             rintro e w' ⟨m,r,hO,v,rfl,ho,hb'⟩
             obtain ⟨rfl,h2,h3⟩:=sm_merge (HI.out k hlt).1 (HS.out j hjlt k hlt) hB hO
             exact ⟨v,r,rfl,h2,h3,ho,hbd.trans hb'⟩
           have HMg:=hideg hM
           have l1:=(hA.own.lt w.heap.size rfl).2
           have HAfter:Hid (∀w3,Below wr.heap.size wr w3 -> (w3.cell? ⟨w.heap.size,k,none⟩=some (.slice a1 (H k).length c1) /\ w3.cell? ⟨bb,of+k,none⟩=some (.slice a2 (M j k).length c2))):=fun w3 h3=>
             ⟨(h3.cell (p:=⟨w.heap.size,k,none⟩) l1).trans x1,(h3.cell (p:=⟨bb,of+k,none⟩) hbl2).trans y0⟩
           have SS:=HAfter.out _ hbd
           generalize (M j k).length=mk at*
           clear hA hM hb x1 p1 p2 ev hbd hz
           go_wp2_with fail
           refine wp_region_backX 13 (S:=fun w' =>w'.cell? ⟨w.heap.size,k,none⟩=some (.slice a1 (H k).length c1) /\ w'.cell? ⟨bb,of+k,none⟩=some (.slice a2 mk c2)) (by kernel_rfl) (by simp) (by kernel_rfl) (by kernel_rfl) (by kernel_rfl) (by kernel_rfl) SS (fun hHeld=> ?_)
           simp only [List.pop_toArray,List.dropLast,List.back!_toArray,List.getLast!]
           refine take_lit (i:=0) (v:= ?_) rfl (by kernel_rfl) (by kernel_rfl) (by kernel_rfl) (fun _ _ _ h=>h) (Or.inl ⟨by rfl,?hy0⟩) (by assumption) ?_
           case hy0=>(intro w hSw;(try dsimp only at hSw);go_simp;try with_reducible rfl)
           try simp only [Act.put,List.setIfInBounds_toArray,List.set_cons_zero,List.set_cons_succ]
           refine take_lit (i:=1) (v:= ?_) rfl (by kernel_rfl) (by kernel_rfl) (by kernel_rfl) (fun _ _ _ h=>h) (Or.inl ⟨by rfl,?hy1⟩) (by assumption) ?_
           case hy1=>(intro w hSw;(try dsimp only at hSw);go_simp;try with_reducible rfl)
           try simp only [Act.put,List.setIfInBounds_toArray,List.set_cons_zero,List.set_cons_succ]
           refine take_lit (i:=2) (v:= ?_) rfl (by kernel_rfl) (by kernel_rfl) (by kernel_rfl) (fun _ _ _ h=>h) (Or.inl ⟨by rfl,?hy2⟩) (by assumption) ?_
           case hy2=>(intro w hSw;(try dsimp only at hSw);go_simp;try with_reducible rfl)
           try simp only [Act.put,List.setIfInBounds_toArray,List.set_cons_zero,List.set_cons_succ]
           refine take_lit (i:=3) (v:= ?_) rfl (by kernel_rfl) (by kernel_rfl) (by kernel_rfl) (fun _ _ _ h=>h) (Or.inl ⟨by rfl,?hy3⟩) (by assumption) ?_
           case hy3=>(intro w hSw;(try dsimp only at hSw);go_simp;try with_reducible rfl)
           try simp only [Act.put,List.setIfInBounds_toArray,List.set_cons_zero,List.set_cons_succ]
           refine take_lit (i:=4) (v:= ?_) rfl (by kernel_rfl) (by kernel_rfl) (by kernel_rfl) (fun _ _ _ h=>h) (Or.inl ⟨by rfl,?hy4⟩) (by assumption) ?_
           case hy4=>(intro w hSw;(try dsimp only at hSw);go_simp;try with_reducible rfl)
           try simp only [Act.put,List.setIfInBounds_toArray,List.set_cons_zero,List.set_cons_succ]
           refine take_lit (i:=5) (v:= ?_) rfl (by kernel_rfl) (by kernel_rfl) (by kernel_rfl) (fun _ _ _ h=>h) (Or.inl ⟨by rfl,?hy5⟩) (by assumption) ?_
           case hy5=>(intro w hSw;(try dsimp only at hSw);go_simp;try with_reducible rfl)
           try simp only [Act.put,List.setIfInBounds_toArray,List.set_cons_zero,List.set_cons_succ]
           refine take_lit (i:=6) (v:= ?_) rfl (by kernel_rfl) (by kernel_rfl) (by kernel_rfl) (fun _ _ _ h=>h) (Or.inl ⟨by rfl,?hy6⟩) (by assumption) ?_
           case hy6=>(intro w hSw;(try dsimp only at hSw);go_simp;try with_reducible rfl)
           try simp only [Act.put,List.setIfInBounds_toArray,List.set_cons_zero,List.set_cons_succ]
           refine take_lit (i:=7) (v:= ?_) rfl (by kernel_rfl) (by kernel_rfl) (by kernel_rfl) (fun _ _ _ h=>h) (Or.inl ⟨by rfl,?hy7⟩) (by assumption) ?_
           case hy7=>(intro w hSw;(try dsimp only at hSw);go_simp;try with_reducible rfl)
           try simp only [Act.put,List.setIfInBounds_toArray,List.set_cons_zero,List.set_cons_succ]
           refine take_lit (i:=8) (v:= ?_) rfl (by kernel_rfl) (by kernel_rfl) (by kernel_rfl) (fun _ _ _ h=>h) (Or.inl ⟨by rfl,?hy8⟩) (by assumption) ?_
           case hy8=>(intro w hSw;(try dsimp only at hSw);go_simp;try with_reducible rfl)
           try simp only [Act.put,List.setIfInBounds_toArray,List.set_cons_zero,List.set_cons_succ]
           refine take_lit (i:=9) (v:= ?_) rfl (by kernel_rfl) (by kernel_rfl) (by kernel_rfl) (fun _ _ _ h=>h) (Or.inl ⟨by rfl,?hy9⟩) (by assumption) ?_
           case hy9=>(intro w hSw;(try dsimp only at hSw);go_simp;try with_reducible rfl)
           try simp only [Act.put,List.setIfInBounds_toArray,List.set_cons_zero,List.set_cons_succ]
           refine next_lit (i:=10) rfl (by kernel_rfl) (fun K hK=> ?_)
           go_simp
           refine HMg.out.mono ?_
           rintro e w3 ⟨v3,r3,rfl,hs3,ht3,ho3,hb3⟩
           obtain ⟨a3,c3,rfl,_⟩:=pcAt_of_owns ho3
           have KK:=HAfter.out w3 hb3
           refine hK.out _ _ KK (fun hHeld=> ?_)
           clear hK K hHeld
           try simp only [Act.put,List.setIfInBounds_toArray,List.set_cons_zero,List.set_cons_succ]
           refine take_lit (i:=11) (v:= ?_) rfl (by kernel_rfl) (by kernel_rfl) (by kernel_rfl) (fun _ _ _ h=>h) (Or.inl ⟨by rfl,?hy11⟩) (by assumption) ?_
           case hy11=>(intro w hSw;(try dsimp only at hSw);go_simp;try with_reducible rfl)
           try simp only [Act.put,List.setIfInBounds_toArray,List.set_cons_zero,List.set_cons_succ]
           refine take_lit (i:=12) (v:= ?_) rfl (by kernel_rfl) (by kernel_rfl) (by kernel_rfl) (fun _ _ _ h=>h) (Or.inl ⟨by rfl,?hy12⟩) (by assumption) ?_
           case hy12=>(intro w hSw;(try dsimp only at hSw);go_simp;try with_reducible rfl)
           try simp only [Act.put,List.setIfInBounds_toArray,List.set_cons_zero,List.set_cons_succ]
           refine take_lit (i:=13) (v:= ?_) rfl (by kernel_rfl) (by kernel_rfl) (by kernel_rfl) (fun _ _ _ h=>h) (Or.inl ⟨by rfl,?hy13⟩) (by assumption) ?_
           case hy13=>(intro w hSw;(try dsimp only at hSw);go_simp;try with_reducible rfl)
           try simp only [Act.put,List.setIfInBounds_toArray,List.set_cons_zero,List.set_cons_succ]
           refine take_lit (i:=14) (v:= ?_) rfl (by kernel_rfl) (by kernel_rfl) (by kernel_rfl) (fun _ _ _ h=>h) (Or.inl ⟨by rfl,?hy14⟩) (by assumption) ?_
           case hy14=>(intro w hSw;(try dsimp only at hSw);go_simp;try with_reducible rfl)
           try simp only [Act.put,List.setIfInBounds_toArray,List.set_cons_zero,List.set_cons_succ]
           refine wpAnyH_done (by kernel_rfl) ?_ _
           refine back_last (fun K hK=> ?_)
           have A3:=HA.out.below hb3
           have fz3:=World.ownsRow.frozenAt A3.own k
           have x3:=KK.1
           have HS5:=hideg (HA.out.set hlt hb3 HB.out.size ho3)
           have HB7:=hideg ((HB.out.trans (hb3.mono HB.out.size)).setCell (p:=⟨w.heap.size,k,none⟩) (Nat.le_refl _) (.slice a3 r3.length c3))
           have HI7:=hideg (HNX.out r3 hs3 ht3)
           clear A3 KK ho3 hb3 hs3 ht3 HNX
           go_simp
           refine hK.out _ _ (NoPanic.normal ?_)
           clear hK K
           go_wp2
           go_roundw
           case rel=>exact ⟨k+1,_,_,by omega,by go_num,HS5.out,HI7.out,HB7.out⟩
           case measure=>simp [intOf];omega
       · have hkn:k=n:=by omega
         subst hkn
         have HI2:Hid (∀v,v<k -> Sm B (H v) /\ ∀t,tel (H v) t=togF M (j+1) v t):=fun v hv=>⟨(HI.out v hv).1,fun t=>by rw [(HI.out v hv).2 t,if_pos hv]⟩
         clear hA hb
         go_wp2
         go_roundw
         case rel=>exact ⟨j+1,_,_,by omega,by go_num,HA.out,HI2.out,HB.out⟩
         case measure=>simp [intOf];omega
   · have hjW:j=W:=by omega
     subst hjW
     have HA:=hideg hA
     have HB:=hideg hb
     have HI:=hideg hI
     clear hA hb hI
     go_wp2
     go_ret
     exact ⟨_,_,rfl,HA.out,HI.out,HB.out⟩
def PtsAt (w:World) (ao:Option Addr) (ps:List Pt):Prop:=
 ps=[] \/ ∃b off,ao=some ⟨b,off,none⟩ /\ b<w.heap.size /\ ∀j,j<ps.length -> w.cell? ⟨b,off+j*5,none⟩=some (.int .i64 (ps.getD j pt0).1) /\ w.cell? ⟨b,off+j*5+1,none⟩=some (.int .i64 (ps.getD j pt0).2.1) /\ w.cell? ⟨b,off+j*5+2,none⟩=some (.int .i64 (ps.getD j pt0).2.2.1) /\ w.cell? ⟨b,off+j*5+3,none⟩=some (.int .i64 (ps.getD j pt0).2.2.2.1) /\ w.cell? ⟨b,off+j*5+4,none⟩=some (.int .i64 (ps.getD j pt0).2.2.2.2)
theorem PtsAt.below {w w' :World} {ao:Option Addr} {ps:List Pt} (h:PtsAt w ao ps) (hb:Below w.heap.size w w'):PtsAt w' ao ps:=by
 rcases h with h | ⟨b,off,rfl,hlt,hc⟩
 · exact .inl h
 · refine .inr ⟨b,off,rfl,Nat.lt_of_lt_of_le hlt hb.size,fun j hj=> ?_⟩
   rw [hb.cell (p:=⟨b,off+j*5,none⟩) hlt,hb.cell (p:=⟨b,off+j*5+1,none⟩) hlt,hb.cell (p:=⟨b,off+j*5+2,none⟩) hlt,hb.cell (p:=⟨b,off+j*5+3,none⟩) hlt,hb.cell (p:=⟨b,off+j*5+4,none⟩) hlt]
   exact hc j hj
theorem PtsAt.at1 {w:World} {ao:Option Addr} {ps:List Pt} (h:PtsAt w ao ps) {k:Nat} (hk:k<ps.length):∃b off,ao=some ⟨b,off,none⟩ /\ b<w.heap.size /\ w.cell? ⟨b,off+k*5,none⟩=some (.int .i64 ps[k].1) /\ w.cell? ⟨b,off+k*5+1,none⟩=some (.int .i64 ps[k].2.1) /\ w.cell? ⟨b,off+k*5+2,none⟩=some (.int .i64 ps[k].2.2.1) /\ w.cell? ⟨b,off+k*5+3,none⟩=some (.int .i64 ps[k].2.2.2.1) /\ w.cell? ⟨b,off+k*5+4,none⟩=some (.int .i64 ps[k].2.2.2.2):=by
 rcases h with rfl | ⟨b,off,rfl,hlt,hc⟩
 · simp at hk
 · have:=hc k hk
   rw [List.getD_eq_getElem?_getD,List.getElem?_eq_getElem hk,Option.getD_some] at this
   exact ⟨b,off,rfl,hlt,this⟩
set_option maxRecDepth 100000 in
set_option maxHeartbeats 8000000 in
theorem bsSend_any (no po:Option Addr) (nc pc n:Nat) (N:Nat -> List P3) (ps:List Pt) (wk W B:Int) (hB:B <= 400000) (hn:n <= 12) (hW:1 <= W /\ W <= 1) (hp:ps.length <= 100000) (w:World) (hN:MsAt w no n N) (hP:PtsAt w po ps) (hG:∀π∈ps,GoodPt n π) (hS:∀v,v<n -> Sm B (N v)):
   Calls Seq.prog 77 #[.slice no n nc,.slice po ps.length pc,.int .i64 wk,.int .i64 W] w fun r w' =>∃val H,r= .returned (.slice (some ⟨w.heap.size,0,none⟩) n n) /\ AM w' w.heap.size w.heap.size n val H /\ (∀v,v<n -> Sm (B+1000) (H v) /\ ∀t,tel (H v) t=sndF N wk W ps ps.length v t) /\ Below w.heap.size w w':=by
 obtain ⟨i1,hi',hy0,hy1,hy2⟩:=info_parts Tryz.infoPcs
 have HS:=hideg hS
 have HN:=hideg hN
 have HP:=hideg hP
 have HG:=hideg hG
 have HW:=hideg hW
 have hW0:¬W=0:=by omega
 obtain ⟨L,hL⟩:∃L,L=ps.length:=⟨_,rfl⟩
 have HL:=hideg hL
 rw [<- hL] at hp ⊢
 clear hS hN hP hG hL hW
 go_enter Seq.func77,Tryz.ntmps77
 go_wp2_with (at_make;refine wpList_make_full _ rfl _ _ 99 rfl w.heap.size 41 i1 (.slice none 0 0) 1 ((Seq.pu 99).trans Tryz.underlying99) hi' hy0 hy1 .i64 .i64 _ _ n rfl rfl rfl rfl (by rw [hy2];omega) (by unfold maxLen;omega) (by simp) ?_;intro w0 hown0 hgrow0)
 have HA0:=hideg (am_start hown0)
 have HB0:Hid (Below w.heap.size w w0):=(Below.refl w.heap.size w).grown hgrow0 (Nat.le_refl _) (fun k hk=>by cases hk)
 clear hown0 hgrow0
 go_loopw [17] (fun i wr=>∃(k:Nat) (val:Nat -> Value) (H:Nat -> List P3),k <= L /\ i= .int .i64 k /\ AM wr w.heap.size w.heap.size n val H /\ (∀v,v<n -> Sm (B+1000) (H v) /\ ∀t,tel (H v) t=sndF N wk W ps k v t) /\ Below w.heap.size w wr) (fun i _=>L-(intOf i).toNat)
 case atStart=>exact ⟨0,_,_,Nat.zero_le _,rfl,HA0.out,fun v hv=>⟨sm_nil _,fun t=>rfl⟩,HB0.out⟩
 case round=>
   clear HA0 HB0
   obtain ⟨k,va,H,hk,rfl,hA,hI,hb⟩:=hrel
   have HA:=hideg hA
   have HI:=hideg hI
   have HB:=hideg hb
   clear hI
   by_cases hlt:k<L
   · have hlt2:k<ps.length:=by rw [<- HL.out];exact hlt
     have hki:(k:Int)<(L:Int):=by omega
     obtain ⟨b,off,rfl,hbl,c0,c1,c2,c3,c4⟩:=(HP.out.below hb).at1 hlt2
     have hg:=HG.out _ (List.getElem_mem hlt2)
     have hgd:ps.getD k pt0=ps[k]:=by rw [List.getD_eq_getElem?_getD,List.getElem?_eq_getElem hlt2,Option.getD_some]
     have HST:Hid (∀v t,sndF N wk W ps (k+1) v t=if ps[k].1%W=wk /\ ps[k].2.1=(v:Int) then mrg 1 (sndF N wk W ps k v t) (alongF N ps[k] t) else sndF N wk W ps k v t):=fun v t=>by
       show (if _ then _ else _)=_
       rw [hgd]
     clear hgd
     generalize ps[k]=π at*
     obtain ⟨pa,pb,f,t,d⟩:=π
     obtain ⟨⟨ga0,ga1⟩,⟨gb0,gb1⟩,gf,gd⟩:=hg
     simp only at ga0 ga1 gb0 gb1 gf gd c0 c1 c2 c3 c4
     obtain ⟨A,rfl⟩:∃A:Nat,pa=(A:Int):=⟨pa.toNat,by omega⟩
     obtain ⟨V,rfl⟩:∃V:Nat,pb=(V:Int):=⟨pb.toNat,by omega⟩
     have hAn:A<n:=by omega
     have hVn:V<n:=by omega
     have HBA:Hid (∀o,Below w.heap.size w (wr.alloc o)):=fun o=>HB.out.alloc HB.out.size o
     have HAA:Hid (∀o,AM (wr.alloc o) w.heap.size w.heap.size n va H):=fun o=>HA.out.below (pal wr o)
     clear hlt2 hb
     by_cases hm:(A:Int)%W=wk
     · obtain ⟨nb,nof,na,nc2,rfl,hnl,y0,pn⟩:=HN.out.at1 hAn
       have y0:=(HB.out.cell (p:=⟨nb,nof+A,none⟩) hnl).trans y0
       have hnr:nb<wr.heap.size:=Nat.lt_of_lt_of_le hnl HB.out.size
       have hAi:(A:Int)<(n:Int):=by omega
       by_cases hz:(N A).length=0
       · have HI2:Hid (∀v,v<n -> Sm (B+1000) (H v) /\ ∀t',tel (H v) t' =sndF N wk W ps (k+1) v t'):=fun v hv=>⟨(HI.out v hv).1,fun t' =>by
           rw [(HI.out v hv).2 t',HST.out]
           have e0:N A=[]:=List.eq_nil_of_length_eq_zero hz
           split
           · unfold alongF
             simp only [Int.toNat_natCast,e0,tel_nil,Option.map_none,ite_self,mrg_none]
           · rfl⟩
         have dm:((A:Int)%W==wk)=true:=by simpa using hm
         rw [hz] at y0
         clear hA hz pn HST HP
         go_wp2
         go_roundw
         case rel=>exact ⟨k+1,_,_,by omega,by go_num,HAA.out _,HI2.out,HBA.out _⟩
         case measure=>simp [intOf];omega
       · have hpos:(0:Int)<((N A).length:Int):=by omega
         obtain ⟨o1,ho1⟩:∃o,o=Obj.cells #[.int .i64 (A:Int),.int .i64 (V:Int),.int .i64 f,.int .i64 t,.int .i64 d] 130:=⟨_,rfl⟩
         have hA1:=HAA.out o1
         have hB1:=HBA.out o1
         obtain ⟨a1,cc1,ev,p1⟩:=pcAt_of_owns (hA1.inn V hVn)
         have x1:=hA1.out hVn
         rw [ev] at x1
         obtain ⟨w1,hw1⟩:∃x,x=wr.alloc o1:=⟨_,rfl⟩
         rw [<- hw1] at hA1 hB1 p1 x1
         have hbd:Below w1.heap.size w1 w1.drew:=(Below.refl _ _).drew
         have hAl:Calls Seq.prog 103 #[.agg #[.int .i64 (A:Int),.int .i64 (V:Int),.int .i64 f,.int .i64 t,.int .i64 d],.slice na (N A).length nc2] w1.drew fun r w' =>∃v q,r= .returned v /\ Sm (B+1000) q /\ (∀t',tel q t' =alongF N ((A:Int),(V:Int),f,t,d) t') /\ w'.ownsRow w1.heap.size 54 3 v q.length (enc3 q) /\ Below w1.heap.size w1 w':=by
           refine (bsAlong_any ((A:Int),(V:Int),f,t,d) na nc2 (N A) B w1.drew (pn.below ((HB.out.alloc HB.out.size o1) |> fun h=>by rw [<- hw1] at h;exact h.trans (hbd.mono h.size))) (HS.out A hAn) (by omega) gf gd).mono ?_
           rintro e w' ⟨v,q,rfl,h1,h2,h3,h4⟩
           exact ⟨v,q,rfl,h1.mono (by simp only;omega),h2,h3,hbd.trans h4⟩
         have HAl:=hideg hAl
         have HMg:Hid (∀(w2:World) (aq:Option Addr) (cq:Nat) (q:List P3),Below w1.heap.size w1 w2 -> PcAt w2 aq q -> Sm (B+1000) q -> Calls Seq.prog 15 #[.slice a1 (H V).length cc1,.slice aq q.length cq,.int .i64 1] w2 fun e w' =>∃v r,e= .returned (.tuple #[v,.int .i64 0]) /\ Sm (B+1000) r /\ (∀t',tel r t' =mrg 1 (tel (H V) t') (tel q t')) /\ w'.ownsRow w1.heap.size 54 3 v r.length (enc3 r) /\ Below w1.heap.size w1 w'):=by
           intro w2 aq cq q h2 hq hsq
           refine (Merge_any 1 a1 aq cc1 cq (H V) q w2 (p1.below h2) hq).mono ?_
           rintro e w' ⟨m,r,hO,v,rfl,ho,hb'⟩
           obtain ⟨rfl,g2,g3⟩:=sm_merge (HI.out V hVn).1 hsq (by omega) hO
           exact ⟨v,r,rfl,g2,g3,owns_base2 ho h2.size,ptw h2 hb'⟩
         have l1:=(hA1.own.lt w.heap.size rfl).2
         have z1:w1.heap.size=wr.heap.size+1:=by rw [hw1];simp
         have HAfter:Hid (∀w3,Below w1.heap.size w1 w3 -> (w3.cell? ⟨wr.heap.size,0,none⟩=some (.int .i64 (A:Int)) /\ w3.cell? ⟨wr.heap.size,1,none⟩=some (.int .i64 (V:Int)) /\ w3.cell? ⟨wr.heap.size,2,none⟩=some (.int .i64 f) /\ w3.cell? ⟨wr.heap.size,3,none⟩=some (.int .i64 t) /\ w3.cell? ⟨wr.heap.size,4,none⟩=some (.int .i64 d) /\ w3.cell? ⟨w.heap.size,V,none⟩=some (.slice a1 (H V).length cc1) /\ w3.cell? ⟨nb,nof+A,none⟩=some (.slice na (N A).length nc2))):=fun w3 h3=>
           ⟨(h3.cell (p:=⟨wr.heap.size,0,none⟩) (by simp only;omega)).trans (by rw [hw1,ho1];simp),(h3.cell (p:=⟨wr.heap.size,1,none⟩) (by simp only;omega)).trans (by rw [hw1,ho1];simp),(h3.cell (p:=⟨wr.heap.size,2,none⟩) (by simp only;omega)).trans (by rw [hw1,ho1];simp),(h3.cell (p:=⟨wr.heap.size,3,none⟩) (by simp only;omega)).trans (by rw [hw1,ho1];simp),(h3.cell (p:=⟨wr.heap.size,4,none⟩) (by simp only;omega)).trans (by rw [hw1,ho1];simp),(h3.cell (p:=⟨w.heap.size,V,none⟩) l1).trans x1,(h3.cell (p:=⟨nb,nof+A,none⟩) (by simp only;omega)).trans (by rw [hw1,(pal wr o1).cell (p:=⟨nb,nof+A,none⟩) hnr];exact y0)⟩
         have SS:=HAfter.out _ hbd
         have HNX:Hid (∀r3:List P3,Sm (B+1000) r3 -> (∀t',tel r3 t' =mrg 1 (tel (H V) t') (alongF N ((A:Int),(V:Int),f,t,d) t')) -> ∀v,v<n -> Sm (B+1000) (updF H V r3 v) /\ ∀t',tel (updF H V r3 v) t' =sndF N wk W ps (k+1) v t'):=by
           intro r3 hs3 ht3 v hv
           by_cases e:v=V
           · subst e
             rw [updF_same]
             refine ⟨hs3,fun t' => ?_⟩
             rw [ht3 t',(HI.out v hv).2 t',HST.out,if_pos ⟨hm,rfl⟩]
           · rw [updF_far _ _ e]
             refine ⟨(HI.out v hv).1,fun t' => ?_⟩
             rw [(HI.out v hv).2 t',HST.out,if_neg (fun h=>e (by have:=h.2;simp only at this;omega))]
         have HA1:=hideg hA1
         have HB1:=hideg hB1
         have hVi:(V:Int)<(n:Int):=by omega
         have dm:((A:Int)%W==wk)=true:=by simpa using hm
         generalize hml:(N A).length=ml at*
         subst ho1
         clear hA hA1 hB1 hAl p1 pn ev x1 hz hml hbd HAA HBA HST HP z1
         subst hw1
         go_wp2_with fail
         refine wp_region_backX 18 (S:=fun w3=>w3.cell? ⟨wr.heap.size,0,none⟩=some (.int .i64 (A:Int)) /\ w3.cell? ⟨wr.heap.size,1,none⟩=some (.int .i64 (V:Int)) /\ w3.cell? ⟨wr.heap.size,2,none⟩=some (.int .i64 f) /\ w3.cell? ⟨wr.heap.size,3,none⟩=some (.int .i64 t) /\ w3.cell? ⟨wr.heap.size,4,none⟩=some (.int .i64 d) /\ w3.cell? ⟨w.heap.size,V,none⟩=some (.slice a1 (H V).length cc1) /\ w3.cell? ⟨nb,nof+A,none⟩=some (.slice na ml nc2)) (by kernel_rfl) (by simp) (by kernel_rfl) (by kernel_rfl) (by kernel_rfl) (by kernel_rfl) SS (fun hHeld=> ?_)
         simp only [List.pop_toArray,List.dropLast,List.back!_toArray,List.getLast!]
         refine take_lit (i:=0) (v:= ?_) rfl (by kernel_rfl) (by kernel_rfl) (by kernel_rfl) (fun _ _ _ h=>h) (Or.inl ⟨by rfl,?hy0⟩) (by assumption) ?_
         case hy0=>(intro w hSw;(try dsimp only at hSw);go_simp;try with_reducible rfl)
         try simp only [Act.put,List.setIfInBounds_toArray,List.set_cons_zero,List.set_cons_succ]
         refine take_lit (i:=1) (v:= ?_) rfl (by kernel_rfl) (by kernel_rfl) (by kernel_rfl) (fun _ _ _ h=>h) (Or.inl ⟨by rfl,?hy1⟩) (by assumption) ?_
         case hy1=>(intro w hSw;(try dsimp only at hSw);go_simp;try with_reducible rfl)
         try simp only [Act.put,List.setIfInBounds_toArray,List.set_cons_zero,List.set_cons_succ]
         refine take_lit (i:=2) (v:= ?_) rfl (by kernel_rfl) (by kernel_rfl) (by kernel_rfl) (fun _ _ _ h=>h) (Or.inl ⟨by rfl,?hy2⟩) (by assumption) ?_
         case hy2=>(intro w hSw;(try dsimp only at hSw);go_simp;try with_reducible rfl)
         try simp only [Act.put,List.setIfInBounds_toArray,List.set_cons_zero,List.set_cons_succ]
         refine take_lit (i:=3) (v:= ?_) rfl (by kernel_rfl) (by kernel_rfl) (by kernel_rfl) (fun _ _ _ h=>h) (Or.inl ⟨by rfl,?hy3⟩) (by assumption) ?_
         case hy3=>(intro w hSw;(try dsimp only at hSw);go_simp;try with_reducible rfl)
         try simp only [Act.put,List.setIfInBounds_toArray,List.set_cons_zero,List.set_cons_succ]
         refine take_lit (i:=4) (v:= ?_) rfl (by kernel_rfl) (by kernel_rfl) (by kernel_rfl) (fun _ _ _ h=>h) (Or.inl ⟨by rfl,?hy4⟩) (by assumption) ?_
         case hy4=>(intro w hSw;(try dsimp only at hSw);go_simp;try with_reducible rfl)
         try simp only [Act.put,List.setIfInBounds_toArray,List.set_cons_zero,List.set_cons_succ]
         refine take_lit (i:=5) (v:= ?_) rfl (by kernel_rfl) (by kernel_rfl) (by kernel_rfl) (fun _ _ _ h=>h) (Or.inl ⟨by rfl,?hy5⟩) (by assumption) ?_
         case hy5=>(intro w hSw;(try dsimp only at hSw);go_simp;try with_reducible rfl)
         try simp only [Act.put,List.setIfInBounds_toArray,List.set_cons_zero,List.set_cons_succ]
         refine take_lit (i:=6) (v:= ?_) rfl (by kernel_rfl) (by kernel_rfl) (by kernel_rfl) (fun _ _ _ h=>h) (Or.inl ⟨by rfl,?hy6⟩) (by assumption) ?_
         case hy6=>(intro w hSw;(try dsimp only at hSw);go_simp;try with_reducible rfl)
         try simp only [Act.put,List.setIfInBounds_toArray,List.set_cons_zero,List.set_cons_succ]
         refine take_lit (i:=7) (v:= ?_) rfl (by kernel_rfl) (by kernel_rfl) (by kernel_rfl) (fun _ _ _ h=>h) (Or.inl ⟨by rfl,?hy7⟩) (by assumption) ?_
         case hy7=>(intro w hSw;(try dsimp only at hSw);go_simp;try with_reducible rfl)
         try simp only [Act.put,List.setIfInBounds_toArray,List.set_cons_zero,List.set_cons_succ]
         refine take_lit (i:=8) (v:= ?_) rfl (by kernel_rfl) (by kernel_rfl) (by kernel_rfl) (fun _ _ _ h=>h) (Or.inl ⟨by rfl,?hy8⟩) (by assumption) ?_
         case hy8=>(intro w hSw;(try dsimp only at hSw);go_simp;try with_reducible rfl)
         try simp only [Act.put,List.setIfInBounds_toArray,List.set_cons_zero,List.set_cons_succ]
         refine take_lit (i:=9) (v:= ?_) rfl (by kernel_rfl) (by kernel_rfl) (by kernel_rfl) (fun _ _ _ h=>h) (Or.inl ⟨by rfl,?hy9⟩) (by assumption) ?_
         case hy9=>(intro w hSw;(try dsimp only at hSw);go_simp;try with_reducible rfl)
         try simp only [Act.put,List.setIfInBounds_toArray,List.set_cons_zero,List.set_cons_succ]
         refine take_lit (i:=10) (v:= ?_) rfl (by kernel_rfl) (by kernel_rfl) (by kernel_rfl) (fun _ _ _ h=>h) (Or.inl ⟨by rfl,?hy10⟩) (by assumption) ?_
         case hy10=>(intro w hSw;(try dsimp only at hSw);go_simp;try with_reducible rfl)
         try simp only [Act.put,List.setIfInBounds_toArray,List.set_cons_zero,List.set_cons_succ]
         refine take_lit (i:=11) (v:= ?_) rfl (by kernel_rfl) (by kernel_rfl) (by kernel_rfl) (fun _ _ _ h=>h) (Or.inl ⟨by rfl,?hy11⟩) (by assumption) ?_
         case hy11=>(intro w hSw;(try dsimp only at hSw);go_simp;try with_reducible rfl)
         try simp only [Act.put,List.setIfInBounds_toArray,List.set_cons_zero,List.set_cons_succ]
         refine take_lit (i:=12) (v:= ?_) rfl (by kernel_rfl) (by kernel_rfl) (by kernel_rfl) (fun _ _ _ h=>h) (Or.inl ⟨by rfl,?hy12⟩) (by assumption) ?_
         case hy12=>(intro w hSw;(try dsimp only at hSw);go_simp;try with_reducible rfl)
         try simp only [Act.put,List.setIfInBounds_toArray,List.set_cons_zero,List.set_cons_succ]
         refine take_lit (i:=13) (v:= ?_) rfl (by kernel_rfl) (by kernel_rfl) (by kernel_rfl) (fun _ _ _ h=>h) (Or.inl ⟨by rfl,?hy13⟩) (by assumption) ?_
         case hy13=>(intro w hSw;(try dsimp only at hSw);go_simp;try with_reducible rfl)
         try simp only [Act.put,List.setIfInBounds_toArray,List.set_cons_zero,List.set_cons_succ]
         refine next_lit (i:=14) rfl (by kernel_rfl) (fun K hK=> ?_)
         go_simp
         refine HAl.out.mono ?_
         rintro e w2 ⟨v2,q2,rfl,hs2,ht2,ho2,hb2⟩
         obtain ⟨aq,cq,rfl,hpq⟩:=pcAt_of_owns ho2
         refine hK.out _ _ (HAfter.out w2 hb2) (fun hHeld=> ?_)
         clear hK K hHeld
         try simp only [Act.put,List.setIfInBounds_toArray,List.set_cons_zero,List.set_cons_succ]
         refine next_lit (i:=15) rfl (by kernel_rfl) (fun K hK=> ?_)
         go_simp
         refine (HMg.out w2 aq cq q2 hb2 hpq hs2).mono ?_
         rintro e w3 ⟨v3,r3,rfl,hs3,ht3,ho3,hb3⟩
         obtain ⟨a3,c3,rfl,_⟩:=pcAt_of_owns ho3
         have KK:=HAfter.out w3 hb3
         refine hK.out _ _ KK (fun hHeld=> ?_)
         clear hK K hHeld
         try simp only [Act.put,List.setIfInBounds_toArray,List.set_cons_zero,List.set_cons_succ]
         refine take_lit (i:=16) (v:= ?_) rfl (by kernel_rfl) (by kernel_rfl) (by kernel_rfl) (fun _ _ _ h=>h) (Or.inl ⟨by rfl,?hy16⟩) (by assumption) ?_
         case hy16=>(intro w hSw;(try dsimp only at hSw);go_simp;try with_reducible rfl)
         try simp only [Act.put,List.setIfInBounds_toArray,List.set_cons_zero,List.set_cons_succ]
         refine take_lit (i:=17) (v:= ?_) rfl (by kernel_rfl) (by kernel_rfl) (by kernel_rfl) (fun _ _ _ h=>h) (Or.inl ⟨by rfl,?hy17⟩) (by assumption) ?_
         case hy17=>(intro w hSw;(try dsimp only at hSw);go_simp;try with_reducible rfl)
         try simp only [Act.put,List.setIfInBounds_toArray,List.set_cons_zero,List.set_cons_succ]
         refine take_lit (i:=18) (v:= ?_) rfl (by kernel_rfl) (by kernel_rfl) (by kernel_rfl) (fun _ _ _ h=>h) (Or.inl ⟨by rfl,?hy18⟩) (by assumption) ?_
         case hy18=>(intro w hSw;(try dsimp only at hSw);go_simp;try with_reducible rfl)
         try simp only [Act.put,List.setIfInBounds_toArray,List.set_cons_zero,List.set_cons_succ]
         refine take_lit (i:=19) (v:= ?_) rfl (by kernel_rfl) (by kernel_rfl) (by kernel_rfl) (fun _ _ _ h=>h) (Or.inl ⟨by rfl,?hy19⟩) (by assumption) ?_
         case hy19=>(intro w hSw;(try dsimp only at hSw);go_simp;try with_reducible rfl)
         try simp only [Act.put,List.setIfInBounds_toArray,List.set_cons_zero,List.set_cons_succ]
         refine wpAnyH_done (by kernel_rfl) ?_ _
         refine back_last (fun K hK=> ?_)
         have A3:=HA1.out.below hb3
         have fz3:=World.ownsRow.frozenAt A3.own V
         have x3:=KK.2.2.2.2.2.1
         have HS5:=hideg (HA1.out.set hVn hb3 HB1.out.size ho3)
         have HB7:=hideg ((HB1.out.trans (hb3.mono HB1.out.size)).setCell (p:=⟨w.heap.size,V,none⟩) (Nat.le_refl _) (.slice a3 r3.length c3))
         have HI7:=hideg (HNX.out r3 hs3 (fun t' =>by rw [ht3 t',ht2 t']))
         clear A3 KK ho3 hb3 hs3 ht3 HNX ho2 hb2 hs2 ht2 hpq
         go_simp
         refine hK.out _ _ (NoPanic.normal ?_)
         clear hK K
         go_wp2
         go_roundw
         case rel=>exact ⟨k+1,_,_,by omega,by go_num,HS5.out,HI7.out,HB7.out⟩
         case measure=>simp [intOf];omega
     · have HI2:Hid (∀v,v<n -> Sm (B+1000) (H v) /\ ∀t',tel (H v) t' =sndF N wk W ps (k+1) v t'):=fun v hv=>⟨(HI.out v hv).1,fun t' =>by rw [(HI.out v hv).2 t',HST.out,if_neg (fun h=>hm h.1)]⟩
       have dm:((A:Int)%W==wk)=false:=by simpa using hm
       clear hA HST HP
       go_wp2
       go_roundw
       case rel=>exact ⟨k+1,_,_,by omega,by go_num,HAA.out _,HI2.out,HBA.out _⟩
       case measure=>simp [intOf];omega
   · have hkL:k=L:=by omega
     subst hkL
     clear hA hb
     go_wp2
     go_ret
     exact ⟨_,_,rfl,HA.out,HI.out,HB.out⟩
def newsC (c:Cl):Bool:= !c.2.2.2.1||decide (c.2.2.2.2<c.2.2.1)
def putC (r:List Cl) (t:Int):Option Int:=r.foldl (fun o c=>if newsC c=true /\ c.1 <= t /\ t<c.2.1 then some c.2.2.2.2 else o) none
theorem putC_snoc (r:List Cl) (c:Cl) (t:Int):putC (r++[c]) t=if newsC c=true /\ c.1 <= t /\ t<c.2.1 then some c.2.2.2.2 else putC r t:=by
 unfold putC;rw [List.foldl_append];rfl
theorem less_cell (m:List (Int×Int×Int)) (s s' v:Int):lessF (tel m s) (some v)=if newsC (s,s',(tel m s).getD 0,(tel m s).isSome,v)=true then some v else none:=by
 cases h:tel m s with
 | none=>simp [lessF,newsC]
 | some x=>simp [lessF,newsC]
theorem rising_getD {S:List Int} (hS:S.Pairwise (·<·)) {j k:Nat} (h:j <= k) (hk:k<S.length):S.getD j 0 <= S.getD k 0:=by
 rw [getD_get' (by omega:j<S.length),getD_get' hk]
 by_cases e:j=k
 · subst e;exact Int.le_refl _
 · have:=List.pairwise_iff_getElem.1 hS j k (by omega) hk (by omega)
   omega
theorem putC_cells {m l:List (Int×Int×Int)} {S:List Int} (hS:S.Pairwise (·<·)) (t:Int):∀(i:Nat),i+1 <= S.length \/ i=0 -> putC (cellsTo m l 1 S i) t=mseg S (fun s=>lessF (tel m s) (mix 1 l s)) i t
 | 0,_=>rfl
 | i+1,hi=>by
   have hi' :i+1<S.length:=by omega
   have ih:=putC_cells (m:=m) (l:=l) hS t i (by omega)
   rw [mseg_succ]
   cases hm:mix 1 l S[i] with
   | none=>
     rw [cellsTo_no (by omega) hm,ih,getD_get' (by omega:i<S.length),hm]
     have:lessF (tel m S[i]) none=none:=rfl
     rw [this];simp
   | some v=>
     rw [cellsTo_yes hi' hm,putC_snoc,ih,getD_get' (by omega:i<S.length),getD_get' hi',hm,less_cell m S[i] S[i+1] v]
     by_cases hc:S[i] <= t /\ t<S[i+1]
     · have hn:mseg S (fun s=>lessF (tel m s) (mix 1 l s)) i t=none:=mseg_none fun k hk hh=>by
         have h1:=rising_getD hS (j:=k+1) (k:=i) (by omega) (by omega)
         rw [getD_get' (by omega:i<S.length)] at h1
         omega
       rw [hn,if_pos hc]
       by_cases hw:newsC (S[i],S[i+1],(tel m S[i]).getD 0,(tel m S[i]).isSome,v)=true
       · rw [if_pos ⟨hw,hc⟩,if_pos hw];rfl
       · rw [if_neg (fun h=>hw h.1),if_neg hw];rfl
     · rw [if_neg (fun h=>hc h.2),if_neg hc];simp
theorem mix_map {how:Int}:∀{l:List (Int×Int×Int)},MCan l -> ∀t,mix how l t=tel l t:=by
 intro l hl t
 have key:∀(l:List (Int×Int×Int)) (o:Option Int),MCan l -> (o.isSome=true -> ∀p∈l,inP p t=false) -> l.foldl (fun o p=>if inP p t then mixO how o p.2.2 else o) o=o.or (tel l t):=by
   intro l
   induction l with
   | nil=>intro o _ _;simp [tel_nil]
   | cons p l ih=>
     intro o hc ho
     rw [List.foldl_cons,tel_cons]
     cases hp:inP p t with
     | true=>
       have:o=none:=by
         cases o with
         | none=>rfl
         | some x=>have:=ho rfl p (by simp);rw [hp] at this;cases this
       subst this
       rw [if_pos rfl,if_pos rfl,ih _ hc.2.2 (fun _ q hq=> ?_)]
       · rfl
       · have h1:=mcan_low hc q hq
         unfold inP at hp ⊢
         simp at hp ⊢
         omega
     | false=>
       rw [if_neg (by simp),if_neg (by simp)]
       exact ih o hc.2.2 (fun h q hq=>ho h q (by simp [hq]))
 have:=key l none hl (fun h=>by cases h)
 unfold mix
 rw [this];rfl
theorem less_turns {m l:List (Int×Int×Int)} {S:List Int} (hm:∀x∈turnsOf m,x∈S) (hl:∀x∈turnsOf l,x∈S):MTurns S (fun s=>lessF (tel m s) (mix 1 l s)):=by
 have ML:=mix_turns (how:=1) hl
 refine ⟨fun s t hst h=> ?_,fun t h=> ?_,fun t h=> ?_⟩
 · show lessF _ _=lessF _ _
   rw [tel_same hst fun x hx=>h x (hm x hx),ML.same s t hst h]
 · show lessF _ _=none
   rw [ML.low t h];rfl
 · show lessF _ _=none
   rw [ML.high t h];rfl
theorem cells_less {m l:List (Int×Int×Int)} {B n:Int} {r:List Cl} (hm:Sm B m) (hl:Sm B l) (hB:B <= 1000000) (h:CellsAns m l 1 n r):n=0 /\ r.length <= 200 /\ (∀c∈r,0 <= c.1 /\ c.1 <= 100 /\ 0 <= c.2.1 /\ c.2.1 <= 100 /\ 0 <= c.2.2.2.2 /\ c.2.2.2.2 <= B) /\ ∀t,putC r t=lessF (tel m t) (tel l t):=by
 have hgm:∀p∈l,GoodM p:=fun p hp=>by
   have h1:=(hl.of hB).near p hp
   have h2:=mcan_pos hl.canon p hp
   exact ⟨h1,h2⟩
 have hlc:cbChk l 1=0:=by
   unfold cbChk
   rw [lchk_ok (by have:=hl.len hB;omega) hgm]
   rfl
 rcases h with ⟨e,_⟩ | ⟨_,e,_⟩ | ⟨_,_,S,hO,h⟩
 · exact absurd (hm.chk hB) e
 · exact absurd hlc e
 have hmem:∀c∈cellsTo m l 1 S (S.length- 1),0 <= c.1 /\ c.1 <= 100 /\ 0 <= c.2.1 /\ c.2.1 <= 100 /\ 0 <= c.2.2.2.2 /\ c.2.2.2.2 <= B:=by
   intro c hc
   obtain ⟨j,hj,_,v,hv,rfl⟩:=cellsTo_mem (by omega) hc
   rw [mix_map hl.canon] at hv
   have hS:∀x∈S,0 <= x /\ x <= 100:=fun x hx=>by
     rcases List.mem_append.1 ((hO.mem x).1 hx) with hx | hx
     · exact hm.turns hB x hx
     · exact hl.turns hB x hx
   have h1:=hS _ (List.getElem_mem (by omega:j<S.length))
   have h2:=hS _ (List.getElem_mem hj)
   have h3:=(hl.tel hv).1
   exact ⟨h1.1,h1.2,h2.1,h2.2,h3.1,h3.2⟩
 have hnear:∀c∈cellsTo m l 1 S (S.length- 1),nearB c.2.2.2.2:=fun c hc=>by have:=hmem c hc;unfold nearB;omega
 have hlen:(cellsTo m l 1 S (S.length- 1)).length <= 200:=by
   have h1:=cellsTo_len m l 1 S (S.length- 1)
   have h2:=rising_le hO.inc (T:=T100) (fun x hx=>mem_T100.2 (by
     rcases List.mem_append.1 ((hO.mem x).1 hx) with hx | hx
     · exact hm.turns hB x hx
     · exact hl.turns hB x hx))
   rw [T100_len] at h2
   omega
 rcases h with ⟨e,_⟩ | ⟨_,e,_⟩ | ⟨_,_,h1,h2⟩
 · exact absurd hnear e
 · omega
 · subst h2
   refine ⟨h1,hlen,hmem,fun t=> ?_⟩
   rw [putC_cells hO.inc t _ (by omega),mseg_turns hO.inc (less_turns (fun x hx=>(hO.mem x).2 (List.mem_append.2 (.inl hx))) (fun x hx=>(hO.mem x).2 (List.mem_append.2 (.inr hx))))]
   show lessF _ _=_
   rw [mix_map hl.canon]
end Go.Proofs.YtfphigmeppdocaaGreat.Q
