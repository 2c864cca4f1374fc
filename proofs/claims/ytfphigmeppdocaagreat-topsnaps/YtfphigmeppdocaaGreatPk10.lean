/-
  Several texts in one.
-/
import Derived.Test.YtfphigmeppdocaaGreatPk9
namespace Go.Proofs.YtfphigmeppdocaaGreat.Q
open Lo (Seq.prog)
open Go.RowKit
theorem Tryz.infoCell:(Seq.prog.info? 150).map (fun i=>(i.zero,i.size,i.bytes))=some (some (.agg #[.int .i64 0,.int .i64 0,.int .i64 0,.bool false,.int .i64 0]),5,40):=by kernel_rfl
def encK (c:Cl):List Value:=[.int .i64 c.1,.int .i64 c.2.1,.int .i64 c.2.2.1,.bool c.2.2.2.1,.int .i64 c.2.2.2.2]
def encC (l:List Cl):List Value:=l.flatMap encK
theorem encC_append (a b:List Cl):encC (a++b)=encC a++encC b:=by simp [encC]
theorem encC_length (l:List Cl):(encC l).length=l.length*5:=by
 induction l with
 | nil=>rfl
 | cons c l ih=>simp only [encC,List.flatMap_cons,List.length_append,List.length_cons] at ih ⊢;rw [ih];simp [encK];omega
def cl0:Cl:=(0,0,0,false,0)
theorem encC_get (l:List Cl) (j:Nat) (h:j<l.length):(encC l)[j*5]? =some (.int .i64 (l.getD j cl0).1) /\ (encC l)[j*5+1]? =some (.int .i64 (l.getD j cl0).2.1) /\ (encC l)[j*5+2]? =some (.int .i64 (l.getD j cl0).2.2.1) /\ (encC l)[j*5+3]? =some (.bool (l.getD j cl0).2.2.2.1) /\ (encC l)[j*5+4]? =some (.int .i64 (l.getD j cl0).2.2.2.2):=by
 induction l generalizing j with
 | nil=>simp at h
 | cons c l ih=>
   have e:encC (c::l)= .int .i64 c.1:: .int .i64 c.2.1:: .int .i64 c.2.2.1:: .bool c.2.2.2.1:: .int .i64 c.2.2.2.2::encC l:=by simp [encC,encK]
   rw [e]
   cases j with
   | zero=>exact ⟨rfl,rfl,rfl,rfl,rfl⟩
   | succ j=>
     have:=ih j (by simpa using h)
     rw [show (j+1)*5=j*5+1+1+1+1+1 by omega]
     simpa using this
def CeAt (w:World) (ao:Option Addr) (l:List Cl):Prop:=
 l=[] \/ ∃b off,ao=some ⟨b,off,none⟩ /\ b<w.heap.size /\ ∀j,j<l.length -> w.cell? ⟨b,off+j*5,none⟩=some (.int .i64 (l.getD j cl0).1) /\ w.cell? ⟨b,off+j*5+1,none⟩=some (.int .i64 (l.getD j cl0).2.1) /\ w.cell? ⟨b,off+j*5+2,none⟩=some (.int .i64 (l.getD j cl0).2.2.1) /\ w.cell? ⟨b,off+j*5+3,none⟩=some (.bool (l.getD j cl0).2.2.2.1) /\ w.cell? ⟨b,off+j*5+4,none⟩=some (.int .i64 (l.getD j cl0).2.2.2.2)
theorem CeAt.below {w w' :World} {ao:Option Addr} {l:List Cl} (h:CeAt w ao l) (hb:Below w.heap.size w w'):CeAt w' ao l:=by
 rcases h with h | ⟨b,off,rfl,hlt,hc⟩
 · exact .inl h
 · refine .inr ⟨b,off,rfl,Nat.lt_of_lt_of_le hlt hb.size,fun j hj=> ?_⟩
   rw [hb.cell (p:=⟨b,off+j*5,none⟩) hlt,hb.cell (p:=⟨b,off+j*5+1,none⟩) hlt,hb.cell (p:=⟨b,off+j*5+2,none⟩) hlt,hb.cell (p:=⟨b,off+j*5+3,none⟩) hlt,hb.cell (p:=⟨b,off+j*5+4,none⟩) hlt]
   exact hc j hj
theorem ceAt_of_owns {w:World} {base e:Nat} {v:Value} {n:Nat} {l:List Cl} (h:w.ownsRow base e 5 v n (encC l)):∃ao cap,v= .slice ao l.length cap /\ CeAt w ao l:=by
 obtain ⟨h1,h2⟩:=h
 simp only [encC_length] at h1
 have hn:n=l.length:=by omega
 subst hn
 rcases h2 with ⟨rfl,h0⟩ | ⟨g,cap,cur,rfl,hb,hh,h3,h4,h5,h6⟩
 · exact ⟨none,0,by rw [h0],.inl (List.eq_nil_of_length_eq_zero h0)⟩
 · have hown:w.ownsRow base e 5 (.slice (some ⟨g,0,none⟩) l.length cap) l.length (encC l):=⟨by simp [encC_length],.inr ⟨g,cap,cur,rfl,hb,hh,h3,h4,h5,h6⟩⟩
   refine ⟨_,cap,rfl,.inr ⟨g,0,rfl,(Array.getElem?_eq_some_iff.1 hh).1,fun j hj=> ?_⟩⟩
   obtain ⟨f0,f1,f2,f3,f4⟩:=encC_get l j hj
   rw [Nat.zero_add,hown.cellAt (j*5) (by omega),hown.cellAt (j*5+1) (by omega),hown.cellAt (j*5+2) (by omega),hown.cellAt (j*5+3) (by omega),hown.cellAt (j*5+4) (by omega)]
   exact ⟨f0,f1,f2,f3,f4⟩
theorem CeAt.get {w:World} {b off:Nat} {l:List Cl} {k:Nat} (hk:k<l.length) (hc:∀j,j<l.length -> w.cell? ⟨b,off+j*5,none⟩=some (.int .i64 (l.getD j cl0).1) /\ w.cell? ⟨b,off+j*5+1,none⟩=some (.int .i64 (l.getD j cl0).2.1) /\ w.cell? ⟨b,off+j*5+2,none⟩=some (.int .i64 (l.getD j cl0).2.2.1) /\ w.cell? ⟨b,off+j*5+3,none⟩=some (.bool (l.getD j cl0).2.2.2.1) /\ w.cell? ⟨b,off+j*5+4,none⟩=some (.int .i64 (l.getD j cl0).2.2.2.2)):
   w.cell? ⟨b,off+k*5,none⟩=some (.int .i64 l[k].1) /\ w.cell? ⟨b,off+k*5+1,none⟩=some (.int .i64 l[k].2.1) /\ w.cell? ⟨b,off+k*5+2,none⟩=some (.int .i64 l[k].2.2.1) /\ w.cell? ⟨b,off+k*5+3,none⟩=some (.bool l[k].2.2.2.1) /\ w.cell? ⟨b,off+k*5+4,none⟩=some (.int .i64 l[k].2.2.2.2):=by
 have hg:l.getD k cl0=l[k]:=by simp [List.getD_eq_getElem?_getD,List.getElem?_eq_getElem hk]
 rw [<- hg];exact hc k hk
theorem cells_five_new (w:World) (B:Nat) (t:TypeId) (x y z u v:Value) (hB:B=w.heap.size):∀j q,[x,y,z,u,v][j]? =some q -> (w.alloc (.cells #[x,y,z,u,v] t)).cell? ((⟨B,0,none⟩:Addr).add j)=some q:=by
 subst hB
 intro j q hj
 match j,hj with
 | 0,hj=>simp at hj;subst hj;simp [Addr.add]
 | 1,hj=>simp at hj;subst hj;simp [Addr.add]
 | 2,hj=>simp at hj;subst hj;simp [Addr.add]
 | 3,hj=>simp at hj;subst hj;simp [Addr.add]
 | 4,hj=>simp at hj;subst hj;simp [Addr.add]
def ToldC (w w' :World) (e:Ending) (n:Int) (r:List Cl):Prop:=
 ∃v,e= .returned (.tuple #[v,.int .i64 n]) /\ w'.ownsRow w.heap.size 150 5 v r.length (encC r) /\ Below w.heap.size w w'
theorem nilC (w W:World):W.ownsRow w.heap.size 150 5 (.slice none 0 0) ([]:List Cl).length (encC []):=World.ownsRow_nil _ _ _ _
set_option maxRecDepth 100000 in
set_option maxHeartbeats 4000000 in
theorem against_any (mo lo:Option Addr) (mc lc:Nat) (m l:List (Int×Int×Int)) (how:Int) (w:World) (hm:PcAt w mo m) (hl:PcAt w lo l) (h3:m.length <= 200) (h4:l.length <= 200) (hg:∀p∈l,GoodM p) (hh:how=1 \/ how=2 \/ how=3):
   Calls Seq.prog 111 #[.slice mo m.length mc,.slice lo l.length lc,.int .i64 how] w fun e w' =>∃S v,e= .returned v /\ Ordered (turnsOf m++turnsOf l) S /\ w'.ownsRow w.heap.size 150 5 v (cellsTo m l how S (S.length- 1)).length (encC (cellsTo m l how S (S.length- 1))) /\ S.length <= 800 /\ Below w.heap.size w w':=by
 obtain ⟨i0,hi,hz0,hz1,hz2⟩:=info_parts Tryz.infoCell
 have hA8:(turnsOf m++turnsOf l).length <= 800:=by rw [List.length_append,turnsOf_length,turnsOf_length];omega
 have hch:=wchanges_any mo lo mc lc m l w hm hl h3 h4
 obtain ⟨A,hA⟩:∃A,A=turnsOf m++turnsOf l:=⟨_,rfl⟩
 rw [<- hA] at hch hA8 ⊢
 clear hA
 have HTg:Hid (∀t W,Below w.heap.size w W -> Calls Seq.prog 128 #[.slice lo l.length lc,.int .i64 t,.int .i64 how] W fun e w' =>e= .returned (.tuple #[.int .i64 ((mix how l t).getD 0),.bool (mix how l t).isSome]) /\ Below W.heap.size W w'):=fun t W h=>wtogether_any lo lc l t how W (hl.below h) h4 hg hh
 have HAt:Hid (∀t W,Below w.heap.size w W -> Calls Seq.prog 11 #[.slice mo m.length mc,.int .i64 t] W fun e w' =>e= .returned (.tuple #[.int .i64 ((tel m t).getD 0),.bool (tel m t).isSome]) /\ Below W.heap.size W w'):=fun t W h=>PAt_any mo mc m t W (hm.below h) (by omega)
 clear hm hl
 go_enter Seq.func111,Tryz.ntmps111
 go_wp2_with fail
 refine hch.mono ?_
 rintro e w1 ⟨v1,rfl,hown1,hb1⟩
 obtain ⟨co,cc,rfl,hz1'⟩:=zsAt_of_owns hown1
 have hsp:=spans_any co cc A w1 hz1' hA8
 clear hch hown1 hz1'
 go_wp2_with fail
 refine hsp.mono ?_
 rintro e w2 ⟨S,v0,rfl,hO,hown0,hb0⟩
 have HO:=hideW hO
 have hSl:S.length <= 800:=Nat.le_trans hO.len hA8
 have hb2:Below w.heap.size w w2:=ptw hb1 hb0
 obtain ⟨N,hN⟩:∃N,N=S.length- 1:=⟨_,rfl⟩
 rw [<- hN] at hown0
 have HN:=hideW hN
 have hN8:N <= 800:=by omega
 have hown2:w2.ownsRow w1.heap.size 95 2 v0 (spn S N).length (encs (spn S N)):=by rw [spn_length];exact hown0
 obtain ⟨so,sc,hv0,hivs⟩:=ivAt_of_owns hown2
 rw [spn_length] at hv0
 subst hv0
 have HIV:=hideW hivs
 clear hO hsp hb1 hb0 hown0 hown2 hivs hN hA8
 go_wp2_with fail
 go_loopw [7,19] (fun v vi wr=>∃(j:Nat),vi= .int .i64 j /\ j <= N /\ wr.ownsRow w2.heap.size 150 5 v (cellsTo m l how S j).length (encC (cellsTo m l how S j)) /\ Below w2.heap.size w2 wr) (fun _ vi _=>N-(intOf vi).toNat)
 case atStart=>exact ⟨0,rfl,Nat.zero_le _,World.ownsRow_nil _ _ _ _,Below.refl _ _⟩
 case round=>
   obtain ⟨j,rfl,hjN,hown,hb⟩:=hrel
   have hol:=cellsTo_len m l how S j
   have hbb:Below w.heap.size w wr:=hb2.trans (hb.mono hb2.size)
   by_cases hlt:j<N
   · have hjS:j+1<S.length:=by have:=HN.out;omega
     rcases HIV.out.below hb with h0 | ⟨b,off,rfl,hbw,hc⟩
     · have:=spn_length S N;rw [h0] at this;simp at this;omega
     have hcj:=hc j (by rw [spn_length];exact hlt)
     rw [spn_get S N j hlt hjS] at hcj
     obtain ⟨c0,c1⟩:=hcj
     simp only at c0 c1
     have hsz:=hb.size
     have HB0:=hideW (fun o=>pal wr o)
     have hcl:=HTg.out S[j] (wr.alloc (.cells #[.int .i64 S[j],.int .i64 S[j+1]] 95)) (ptw hbb (pal _ _))
     have HOW:Hid (∀W,Below wr.heap.size wr W -> W.ownsRow w2.heap.size 150 5 u7 (cellsTo m l how S j).length (encC (cellsTo m l how S j)) /\ Below w2.heap.size w2 W):=fun W h=>⟨ownsRow_below hown h,hb.trans (h.mono hb.size)⟩
     have HAW:=hideW (fun W (h:Below wr.heap.size wr W)=>HAt.out S[j] W (ptw hbb h))
     clear hc hown hb HIV
     cases hfj:mix how l S[j] with
     | none=>
       have HE:=hideW (cellsTo_no (m:=m) (show j<S.length by omega) hfj)
       rw [hfj] at hcl
       simp only [Option.isSome_none,Option.getD_none] at hcl
       clear hfj HAW
       go_wp2_with fail
       refine hcl.mono ?_
       rintro e w3 ⟨rfl,hb3⟩
       have F:=HOW.out w3 (ptw (HB0.out _) hb3)
       go_wp2
       go_roundw
       case rel=>exact ⟨j+1,by go_num,by omega,by rw [HE.out];exact F.1,F.2⟩
       case measure=>simp [intOf];omega
     | some y=>
       have HE:=hideW (cellsTo_yes (m:=m) hjS hfj)
       rw [hfj] at hcl
       simp only [Option.isSome_some,Option.getD_some] at hcl
       clear hfj
       go_wp2_with fail
       refine hcl.mono ?_
       rintro e w3 ⟨rfl,hb3⟩
       have hb3':=ptw (HB0.out _) hb3
       have hAt:=HAW.out w3 hb3'
       have d0:w3.cell? ⟨wr.heap.size,0,none⟩=some (.int .i64 S[j]):=by rw [hb3.cell (p:=⟨wr.heap.size,0,none⟩) (by simp)];simp
       have hlt3:wr.heap.size<w3.heap.size:=World.block_lt_of_cell? w3 _ d0
       have d1:w3.cell? ⟨wr.heap.size,1,none⟩=some (.int .i64 S[j+1]):=by rw [hb3.cell (p:=⟨wr.heap.size,1,none⟩) (by simp)];simp
       have HD:=hideW (fun W (h:Below w3.heap.size w3 W)=>(⟨(h.cell (p:=⟨wr.heap.size,0,none⟩) hlt3).trans d0,(h.cell (p:=⟨wr.heap.size,1,none⟩) hlt3).trans d1⟩:W.cell? ⟨wr.heap.size,0,none⟩=some (.int .i64 S[j]) /\ W.cell? ⟨wr.heap.size,1,none⟩=some (.int .i64 S[j+1])))
       clear hcl hb3 HAW d1
       go_wp2_with fail
       refine hAt.mono ?_
       rintro e w4 ⟨rfl,hb4⟩
       obtain ⟨e0,e1⟩:=HD.out w4 hb4
       have hb4':=ptw hb3' hb4
       obtain ⟨o1,o2⟩:=HOW.out w4 hb4'
       have HBg:Hid (∀(o:Obj) (w5:World),(w4.alloc o).grownBy w5 u7.ownBlock -> Below w2.heap.size w2 w5):=fun o w5 hgr=>(o2.alloc o2.size o).grown hgr (by have:=o2.size;simp;omega) (fun k hk=>(o1.lt k hk).1)
       have hs4:=o2.size
       generalize (tel m S[j]).getD 0=tv at*
       generalize (tel m S[j]).isSome=tb at*
       clear hAt d0 HD HOW hb4 o2
       go_wp2_with (at_builtin;refine wpList_append_own _ rfl _ _ 144 rfl w2.heap.size 150 i0 _ 5 40 ((Seq.pu 144).trans Tryz.underlying144) hi hz0 hz1 hz2 rfl (by decide) _ _ _ rfl (World.ownsRow.alloc (w:=w4) o1 _) ⟨w4.heap.size,0,none⟩ 1 1 [.int .i64 S[j],.int .i64 S[j+1],.int .i64 tv,.bool tb,.int .i64 y] rfl rfl (cells_five_new _ _ _ _ _ _ _ _ rfl) (by intro u hu;simp at hu;rcases hu with rfl | rfl | rfl | rfl | rfl<;>rfl) (by unfold maxLen;omega) (by omega) (by simp;omega) ?_;intro v' w5 hown5 hgrow _)
       have hb':=HBg.out _ _ hgrow
       have R:w5.ownsRow w2.heap.size 150 5 v' (cellsTo m l how S (j+1)).length (encC (cellsTo m l how S (j+1))):=by
         rw [HE.out,encC_append,List.length_append];exact hown5
       clear hgrow o1 hown5
       go_wp2
       go_roundw
       case rel=>exact ⟨j+1,by go_num,by omega,R,hb'⟩
       case measure=>simp [intOf];omega
   · have hjn:j=N:=by omega
     have HR:Hid (wr.ownsRow w.heap.size 150 5 u7 (cellsTo m l how S (S.length- 1)).length (encC (cellsTo m l how S (S.length- 1)))):=by
       show World.ownsRow _ _ _ _ _ _ _
       rw [<- HN.out,<- hjn];exact owns_base2 hown hb2.size
     subst hjn
     clear hown HIV hb
     go_wp2
     go_ret
     exact ⟨S,_,rfl,HO.out,HR.out,hSl,hbb⟩
def CFitIs (out:List Cl) (n:Int) (r:List Cl):Prop:=
 (¬(∀c∈out,nearB c.2.2.2.2) /\ n=5 /\ r=[]) \/ ((∀c∈out,nearB c.2.2.2.2) /\ 200<out.length /\ n=2 /\ r=[]) \/ ((∀c∈out,nearB c.2.2.2.2) /\ out.length <= 200 /\ n=0 /\ r=out)
theorem Near_one (B:Nat) (x:Int) (w:World) (hB:B<w.heap.size) (c0:w.cell? ⟨B,0,none⟩=some (.int .i64 x)):
   Calls Seq.prog 86 #[.slice (some ⟨B,0,none⟩) 1 1] w fun e w' =>e= .returned (.bool (nrB x)) /\ w' =w:=by
 have h:=Near_any (some ⟨B,0,none⟩) 1 [x] w (.inr ⟨B,0,rfl,hB,fun j hj=>by
   match j,hj with
   | 0,_=>exact c0⟩) (by simp)
 simpa using h
set_option maxRecDepth 100000 in
set_option maxHeartbeats 2000000 in
theorem cfit_any (base:Nat) (v:Value) (out:List Cl) (w:World) (hown:w.ownsRow base 150 5 v out.length (encC out)) (hlen:out.length <= 1000):
   Calls Seq.prog 110 #[v] w fun e w' =>∃n r v',CFitIs out n r /\ e= .returned (.tuple #[v',.int .i64 n]) /\ w'.ownsRow base 150 5 v' r.length (encC r) /\ Below w.heap.size w w':=by
 obtain ⟨vo,vc,hve,hl⟩:=ceAt_of_owns hown
 subst hve
 have HOW:=hideW hown
 have HNil:Hid (∀W:World,W.ownsRow base 150 5 (.slice none 0 0) ([]:List Cl).length (encC [])):=fun W=>World.ownsRow_nil _ _ _ _
 clear hown
 go_enter Seq.func110,Tryz.ntmps110
 go_wp2
 go_loopw [8] (fun i wr=>∃k:Nat,k <= out.length /\ i= .int .i64 k /\ (∀c∈out.take k,nearB c.2.2.2.2) /\ Below w.heap.size w wr) (fun i _=>out.length-(intOf i).toNat)
 case atStart=>exact ⟨0,Nat.zero_le _,rfl,fun q hq=>by simp at hq,Below.refl _ _⟩
 case round=>
   obtain ⟨k,hk,rfl,hn,hb⟩:=hrel
   have HN:=hideW hn
   clear hn
   by_cases hlt:k<out.length
   · rcases hl.below hb with h0 | ⟨b,off,rfl,hbw,hc⟩
     · subst h0;simp at hlt
     obtain ⟨c0,c1,c2,c3,c4⟩:=CeAt.get hlt hc
     have HB:=hideW (fun o o' =>ptw (ptw hb (pal wr o)) (pal (wr.alloc o) o'))
     clear hc hl hb
     by_cases n1:nearB out[k].2.2.2.2
     · have HS:Hid (∀c∈out.take (k+1),nearB c.2.2.2.2):=by
         intro q hq
         rw [take_succ_get out k hlt,List.mem_append,List.mem_singleton] at hq
         rcases hq with hq | rfl
         · exact HN.out q hq
         · exact n1
       have e1:=(nrB_iff _).2 n1
       clear n1
       go_wp2_with fail
       refine (Near_one (wr.heap.size+1) out[k].2.2.2.2 _ (by simp) (by simp)).mono ?_
       rintro e w1 ⟨rfl,rfl⟩
       rw [e1]
       go_wp2
       go_roundw
       case rel=>exact ⟨k+1,by omega,by go_num,HS.out,HB.out _ _⟩
       case measure=>simp [intOf];omega
     · have HC:Hid (CFitIs out 5 []):= .inl ⟨fun h=>n1 (h _ (List.getElem_mem hlt)),rfl,rfl⟩
       have e1:nrB out[k].2.2.2.2=false:=by rw [<- Bool.not_eq_true,nrB_iff];exact n1
       clear n1
       go_wp2_with fail
       refine (Near_one (wr.heap.size+1) out[k].2.2.2.2 _ (by simp) (by simp)).mono ?_
       rintro e w1 ⟨rfl,rfl⟩
       rw [e1]
       go_wp2
       go_ret2
       exact ⟨_,_,_,HC.out,rfl,HNil.out _,HB.out _ _⟩
   · have hkl:k=out.length:=by omega
     have hall:∀c∈out,nearB c.2.2.2.2:=by have:=HN.out;rwa [hkl,List.take_length] at this
     have HA:=hideW hall
     clear hall
     subst hkl
     by_cases h200:200<out.length
     · have HC:Hid (CFitIs out 2 []):= .inr (.inl ⟨HA.out,h200,rfl,rfl⟩)
       go_wp2
       go_ret2
       exact ⟨_,_,_,HC.out,rfl,HNil.out _,hb⟩
     · have HC:Hid (CFitIs out 0 out):= .inr (.inr ⟨HA.out,by omega,rfl,rfl⟩)
       have HR:=hideW (ownsRow_below HOW.out hb)
       go_wp2
       go_ret2
       exact ⟨_,_,_,HC.out,rfl,HR.out,hb⟩
def CellsAns (m l:List (Int×Int×Int)) (how n:Int) (r:List Cl):Prop:=
 (¬mchk m=0 /\ n=mchk m /\ r=[]) \/ (mchk m=0 /\ ¬cbChk l how=0 /\ n=cbChk l how /\ r=[]) \/ (mchk m=0 /\ cbChk l how=0 /\ CellsIs m l how n r)
theorem mchk_bad' {m:List (Int×Int×Int)} (h:¬mchk m=0):∃n,mchk m=n /\ (n=2 \/ n=5):=by
 rcases mchk_cases m with e | e | ⟨e,_⟩
 · exact ⟨2,e,.inl rfl⟩
 · exact ⟨5,e,.inr rfl⟩
 · exact absurd e h
theorem mchk_good' {m:List (Int×Int×Int)} (h:mchk m=0):m.length <= 200 /\ MCan m /\ ∀p∈m,NearP p:=by
 rcases mchk_cases m with e | e | ⟨_,h1,h2⟩
 · omega
 · omega
 · exact ⟨h1,mcan_of_good h2,near_of_good h2⟩
set_option maxRecDepth 100000 in
set_option maxHeartbeats 2000000 in
theorem Cells_any (mo lo:Option Addr) (mc lc:Nat) (m l:List (Int×Int×Int)) (how:Int) (w:World) (hm:PcAt w mo m) (hl:PcAt w lo l):
   Calls Seq.prog 79 #[.slice mo m.length mc,.slice lo l.length lc,.int .i64 how] w fun e w' =>∃n r,CellsAns m l how n r /\ ToldC w w' e n r:=by
 have h1:=PCheck_any mo mc m w hm
 by_cases e1:¬mchk m=0
 · obtain ⟨n,en,hn⟩:=mchk_bad' e1
   have HC:Hid (CellsAns m l how n []):= .inl ⟨e1,en.symm,rfl⟩
   rw [en] at h1
   clear e1 en
   rcases hn with rfl | rfl
   all_goals
     go_enter Seq.func79,Tryz.ntmps79
     go_wp2_with fail
     refine h1.mono ?_
     rintro e w1 ⟨rfl,hb1⟩
     go_wp2
     go_ret2
     exact ⟨_,_,HC.out,_,rfl,nilC _ _,hb1⟩
 rw [Decidable.not_not] at e1
 rw [e1] at h1
 have HE1:=hideW e1
 have h2:=fun W (h:Below w.heap.size w W)=>checkBoth_any lo lc l how W (hl.below h)
 clear e1
 by_cases e2:¬cbChk l how=0
 · obtain ⟨n,en,hn⟩:=cbChk_bad e2
   have HC:Hid (CellsAns m l how n []):= .inr (.inl ⟨HE1.out,e2,en.symm,rfl⟩)
   simp only [en] at h2
   clear e2 en
   rcases hn with rfl | rfl | rfl
   all_goals
     go_enter Seq.func79,Tryz.ntmps79
     go_wp2_with fail
     refine h1.mono ?_
     rintro e w1 ⟨rfl,hb1⟩
     go_wp2_with fail
     refine (h2 w1 hb1).mono ?_
     rintro e w2 ⟨rfl,hb2⟩
     have hb:=ptw hb1 hb2
     clear hb1 hb2
     go_wp2
     go_ret2
     exact ⟨_,_,HC.out,_,rfl,nilC _ _,hb⟩
 rw [Decidable.not_not] at e2
 simp only [e2] at h2
 have HE2:=hideW e2
 obtain ⟨l3,_,_⟩:=mchk_good' HE1.out
 obtain ⟨l4,hgd,hhw,_⟩:=cbChk_good e2
 have h5:=fun W (h:Below w.heap.size w W)=>against_any mo lo mc lc m l how W (hm.below h) (hl.below h) l3 l4 hgd hhw
 clear e2 hm hl hhw
 have HGD:=hideW hgd
 clear hgd
 go_enter Seq.func79,Tryz.ntmps79
 go_wp2_with fail
 refine h1.mono ?_
 rintro e w1 ⟨rfl,hb1⟩
 go_wp2_with fail
 refine (h2 w1 hb1).mono ?_
 rintro e w2 ⟨rfl,hb2⟩
 have hb:=ptw hb1 hb2
 clear hb1 hb2 h1
 go_wp2_with fail
 refine (h5 w2 hb).mono ?_
 rintro e w3 ⟨S,v3,rfl,hO,hown,hSl,hb3⟩
 have hfit:=cfit_any w2.heap.size v3 _ w3 hown (by have:=cellsTo_len m l how S (S.length- 1);omega)
 have HO:=hideW hO
 have hbb:=ptw hb hb3
 have hs:=hb.size
 clear hO hown hb3 h2 h5
 go_wp2_with fail
 refine hfit.mono ?_
 rintro e w4 ⟨n,r,v4,hF,rfl,hown4,hb4⟩
 have HC:Hid (CellsAns m l how n r):= .inr (.inr ⟨HE1.out,HE2.out,S,HO.out,hF⟩)
 have R:=owns_base2 hown4 hs
 have hbF:=ptw hbb hb4
 clear hF hfit hown4 hb4
 go_wp2
 go_ret2
 exact ⟨n,r,HC.out,v4,rfl,R,hbF⟩
theorem Tryz.infoMsg:(Seq.prog.info? 183).map (fun i=>(i.zero,i.size,i.bytes))=some (some (.agg #[.int .i64 0,.int .i64 0,.int .i64 0]),3,24):=by kernel_rfl
theorem enc3_cons (q:P3) (l:List P3):enc3 (q::l)= .int .i64 q.1:: .int .i64 q.2.1:: .int .i64 q.2.2::enc3 l:=by unfold enc3;rw [flat3_cons];rfl
theorem made_three (n:Nat):(madeCells (Value.agg #[.int .i64 0,.int .i64 0,.int .i64 0]).cells (n*3)).toList=enc3 (List.replicate n (0,0,0)):=by
 apply List.ext_getElem?
 intro j
 have hl:(madeCells (Value.agg #[.int .i64 0,.int .i64 0,.int .i64 0]).cells (n*3)).toList.length=n*3:=by rw [Array.length_toList,size_madeCells]
 by_cases hj:j<n*3
 · have e0:∀x∈enc3 (List.replicate n ((0:Int),(0:Int),(0:Int))),x=Value.int .i64 0:=by
     intro x hx
     unfold enc3 flat3 at hx
     simp only [List.mem_map,List.mem_flatMap,List.mem_replicate] at hx
     obtain ⟨y,⟨q,⟨_,rfl⟩,hy⟩,rfl⟩:=hx
     simp at hy
     rw [hy]
   have hj2:j<(enc3 (List.replicate n ((0:Int),(0:Int),(0:Int)))).length:=by rw [enc3_length,List.length_replicate];exact hj
   rw [List.getElem?_eq_getElem (by omega),List.getElem?_eq_getElem hj2,e0 _ (List.getElem_mem hj2)]
   congr 1
   have h3:(Value.agg #[.int .i64 0,.int .i64 0,.int .i64 0]).cells=#[Value.int .i64 0,.int .i64 0,.int .i64 0]:=by rfl
   simp only [madeCells,h3,Array.getElem_toList,Array.getElem_map,Array.getElem_range]
   have:j%3=0 \/ j%3=1 \/ j%3=2:=by omega
   rcases this with e | e | e<;>simp [e]
 · rw [List.getElem?_eq_none (by omega),List.getElem?_eq_none (by rw [enc3_length,List.length_replicate];omega)]
theorem enc3_set3:∀(m:List P3) (k:Nat) (q:P3),k<m.length -> (((enc3 m).set (k*3) (.int .i64 q.1)).set (k*3+1) (.int .i64 q.2.1)).set (k*3+2) (.int .i64 q.2.2)=enc3 (m.set k q)
 | [],k,q,h=>by simp at h
 | x::m,0,q,_=>by
   have e:(x::m).set 0 q=q::m:=rfl
   rw [e,enc3_cons,enc3_cons];rfl
 | x::m,k+1,q,h=>by
   have ih:=enc3_set3 m k q (by simpa using h)
   have e:(x::m).set (k+1) q=x::m.set k q:=rfl
   rw [e,enc3_cons,enc3_cons,<- ih,show (k+1)*3=k*3+1+1+1 from by omega]
   rfl
theorem enc3_set2:∀(m:List P3) (k:Nat) (z:Int) (h:k<m.length),(enc3 m).set (k*3+2) (.int .i64 z)=enc3 (m.set k (m[k].1,m[k].2.1,z))
 | [],k,q,h=>by simp at h
 | x::m,0,q,_=>by
   show _=enc3 ((x.1,x.2.1,q)::m)
   rw [enc3_cons,enc3_cons];rfl
 | x::m,k+1,q,h=>by
   have hk:k<m.length:=by simpa using h
   have ih:=enc3_set2 m k q hk
   show _=enc3 (x::m.set k (m[k].1,m[k].2.1,q))
   rw [enc3_cons,enc3_cons,<- ih,show (k+1)*3+2=k*3+2+1+1+1 from by omega]
   rfl
theorem take_set_get {α:Type} {l m:List α} {k:Nat} (hk:k<l.length) (hm:m.length=l.length) (h:m.take k=l.take k):(m.set k l[k]).take (k+1)=l.take (k+1):=by
 have hk2:k<m.length:=by omega
 rw [List.take_add_one,List.take_add_one,List.take_set_of_le (Nat.le_refl _),h]
 simp [hk,hk2]
set_option maxRecDepth 100000 in
set_option maxHeartbeats 2000000 in
theorem bsMessages_any (ao:Option Addr) (cap:Nat) (l:List P3) (w:World) (hl:PcAt w ao l) (h2:l.length <= 200):
   Calls Seq.prog 80 #[.slice ao l.length cap] w fun r w' =>∃a c,r= .returned (.slice a l.length c) /\ PcAt w' a l /\ Below w.heap.size w w':=by
 obtain ⟨i0,hi,hz0,hz1,hz2⟩:=info_parts Tryz.infoMsg
 obtain ⟨n,hn⟩:∃n,n=l.length:=⟨_,rfl⟩
 rw [<- hn]
 have HH:=hideg hn
 have hn2:n <= 200:=by omega
 clear hn h2
 go_enter Seq.func80,Tryz.ntmps80
 go_wp2_with (at_make;refine wpList_make_full _ rfl _ _ 147 rfl w.heap.size 183 i0 _ 3 ((Seq.pu 147).trans Tryz.underlying147) hi hz0 hz1 .i64 .i64 _ _ n rfl rfl rfl rfl (by rw [hz2];omega) (by unfold maxLen;omega) (by simp) ?_;intro w0 hown0 hgrow0)
 rw [made_three] at hown0
 have HB0:Hid (Below w.heap.size w w0):=(Below.refl w.heap.size w).grown hgrow0 (Nat.le_refl _) (fun k hk=>by cases hk)
 have HO0:=hideg hown0
 clear hown0 hgrow0
 go_loopw [11] (fun i wr=>∃(k:Nat) (m:List P3),k <= n /\ i= .int .i64 k /\ m.length=n /\ m.take k=l.take k /\ wr.ownsRow w.heap.size 183 3 (.slice (some ⟨w.heap.size,0,none⟩) n n) n (enc3 m) /\ Below w.heap.size w wr) (fun i _=>n-(intOf i).toNat)
 case atStart=>exact ⟨0,List.replicate n (0,0,0),Nat.zero_le _,rfl,by simp,by simp,HO0.out,HB0.out⟩
 case round=>
   clear HB0 HO0
   obtain ⟨k,m,hk,rfl,hml,hmt,hown,hb⟩:=hrel
   by_cases hlt:k<n
   · have hlt2:k<l.length:=by rw [<- HH.out];exact hlt
     rcases hl.below hb with h0 | ⟨b,off,rfl,hbw,hc⟩
     · subst h0;simp at hlt2
     obtain ⟨c0,c1,c2⟩:=PcAt.at3 hlt2 hc
     have HM:=hideg (take_set_get hlt2 (hml.trans HH.out) hmt)
     have HE:=hideg (enc3_set3 m k l[k] (by omega))
     have HML:=hideg hml
     clear hc hl hmt hml
     generalize l[k]=q at*
     clear hlt2
     have hsz:=hb.size
     have f0:=hown.frozenAt (k*3)
     have f1:=hown.frozenAt (k*3+1)
     have f2:=hown.frozenAt (k*3+2)
     have g0:∃x,wr.cell? ⟨w.heap.size,k*3,none⟩=some x:=by
       rw [hown.cellAt (k*3) (by omega)];exact ⟨_,List.getElem?_eq_getElem (by rw [enc3_length,HML.out];omega)⟩
     have g1:∃x,wr.cell? ⟨w.heap.size,k*3+1,none⟩=some x:=by
       rw [hown.cellAt (k*3+1) (by omega)];exact ⟨_,List.getElem?_eq_getElem (by rw [enc3_length,HML.out];omega)⟩
     have g2:∃x,wr.cell? ⟨w.heap.size,k*3+2,none⟩=some x:=by
       rw [hown.cellAt (k*3+2) (by omega)];exact ⟨_,List.getElem?_eq_getElem (by rw [enc3_length,HML.out];omega)⟩
     obtain ⟨x0,g0⟩:=g0
     obtain ⟨x1,g1⟩:=g1
     obtain ⟨x2,g2⟩:=g2
     have HOW:Hid (((((wr.setCell ⟨w.heap.size,k*3,none⟩ (.int .i64 q.1)).setCell ⟨w.heap.size,k*3+1,none⟩ (.int .i64 q.2.1)).setCell ⟨w.heap.size,k*3+2,none⟩ (.int .i64 q.2.2)).alloc (.cells #[.int .i64 q.1,.int .i64 q.2.1,.int .i64 q.2.2] 54)).ownsRow w.heap.size 183 3 (.slice (some ⟨w.heap.size,0,none⟩) n n) n (enc3 (m.set k q))):=by
       have:=(((hown.stored (k*3) (.int .i64 q.1)).1.stored (k*3+1) (.int .i64 q.2.1)).1.stored (k*3+2) (.int .i64 q.2.2)).1
       rw [HE.out] at this
       exact World.ownsRow.alloc this _
     have HBW:Hid (Below w.heap.size w ((((wr.setCell ⟨w.heap.size,k*3,none⟩ (.int .i64 q.1)).setCell ⟨w.heap.size,k*3+1,none⟩ (.int .i64 q.2.1)).setCell ⟨w.heap.size,k*3+2,none⟩ (.int .i64 q.2.2)).alloc (.cells #[.int .i64 q.1,.int .i64 q.2.1,.int .i64 q.2.2] 54))):=
       (((hb.setCell (p:=⟨w.heap.size,k*3,none⟩) (Nat.le_refl _) _).setCell (p:=⟨w.heap.size,k*3+1,none⟩) (Nat.le_refl _) _).setCell (p:=⟨w.heap.size,k*3+2,none⟩) (Nat.le_refl _) _).alloc (by simp [World.setCell];omega) _
     have hsw:=Nat.lt_of_lt_of_le ((hown.lt _ rfl).2) (Nat.le_refl _)
     clear hown hb HE
     go_wp2
     go_roundw
     case rel=>exact ⟨k+1,m.set k q,by omega,by go_num,by rw [List.length_set];exact HML.out,HM.out,HOW.out,HBW.out⟩
     case measure=>simp [intOf];omega
   · have hkn:k=n:=by omega
     have e1:m=l:=by
       rw [hkn,List.take_of_length_le (by omega),List.take_of_length_le (by rw [HH.out];omega)] at hmt
       exact hmt
     subst hkn
     subst e1
     obtain ⟨a,c,e,hp⟩:=pcAt_of_owns hown
     simp only [Value.slice.injEq] at e
     obtain ⟨rfl,_,rfl⟩:=e
     have HP:=hideg hp
     have HB:=hideg hb
     clear hown hmt hml hl hp hb hlt
     go_wp2
     go_ret
     exact ⟨_,_,rfl,HP.out,HB.out⟩
theorem rising_le {R T:List Int} (hR:R.Pairwise (·<·)) (h:∀x∈R,x∈T):R.length <= T.length:=by
 induction R generalizing T with
 | nil=>simp
 | cons x R ih=>
   rw [List.pairwise_cons] at hR
   have hx:x∈T:=h x (by simp)
   have:=ih (T:=T.erase x) hR.2 fun y hy=>(List.mem_erase_of_ne (by have:=hR.1 y hy;omega)).2 (h y (by simp [hy]))
   rw [List.length_erase_of_mem hx] at this
   have hp:0<T.length:=List.length_pos_of_mem hx
   simp only [List.length_cons];omega
theorem mcan_starts {m:List (Int×Int×Int)} (h:MCan m):(m.map (fun q=>q.1)).Pairwise (·<·):=by
 induction m with
 | nil=>exact List.Pairwise.nil
 | cons p m ih=>
   rw [List.map_cons,List.pairwise_cons]
   refine ⟨fun x hx=> ?_,ih h.2.2⟩
   rw [List.mem_map] at hx
   obtain ⟨q,hq,rfl⟩:=hx
   have:=mcan_low h q hq
   have:=h.1
   omega
theorem mcan_len {m:List (Int×Int×Int)} {T:List Int} (h:MCan m) (hT:∀q∈m,q.1∈T):m.length <= T.length:=by
 have:=rising_le (mcan_starts h) (T:=T) (fun x hx=>by rw [List.mem_map] at hx;obtain ⟨q,hq,rfl⟩:=hx;exact hT q hq)
 simpa using this
structure MOf (T:List Int) (m:List (Int×Int×Int)):Prop where
 canon:MCan m
 near:∀p∈m,NearP p
 mem:∀q∈m,q.1∈T /\ q.2.1∈T
theorem MOf.len {T:List Int} {m:List (Int×Int×Int)} (h:MOf T m):m.length <= T.length:=mcan_len h.canon fun q hq=>(h.mem q hq).1
theorem MOf.chk {T:List Int} {m:List (Int×Int×Int)} (h:MOf T m) (hT:T.length <= 200):mchk m=0:=mchk_of_mcan h.canon h.near (by have:=h.len;omega)
theorem MOf.turns {T:List Int} {m:List (Int×Int×Int)} (h:MOf T m):∀x∈turnsOf m,x∈T:=by
 intro x hx
 obtain ⟨p,hp,e | e⟩:=turnsOf_mem hx
 · rw [e];exact (h.mem p hp).1
 · rw [e];exact (h.mem p hp).2
theorem mapIs_out {A:List Int} {f:Int -> Option Int} {n:Int} {r:List (Int×Int×Int)} (h:MapIs A f n r) (hf:∀S,(∀x,x∈S↔x∈A) -> MTurns S f):∃out,MCan out /\ (∀t,tel out t=f t) /\ (∀q∈out,q.1∈A /\ q.2.1∈A /\ ∃s,f s=some q.2.2) /\ FitIs out n r:=by
 obtain ⟨S,out,hO,hT,h⟩:=h
 refine ⟨out,hT.canon,tl_tel hO (hf S hO.mem) hT,fun q hq=> ?_,h⟩
 obtain ⟨h1,h2,s,_,h3⟩:=hT.mem q hq
 exact ⟨(hO.mem _).1 h1,(hO.mem _).1 h2,s,h3⟩
theorem fitIs_unique {out:List (Int×Int×Int)} {n n' :Int} {r r' :List (Int×Int×Int)} (h:FitIs out n r) (h' :FitIs out n' r'):n=n' /\ r=r':=by
 rcases h with ⟨a,h1,h2⟩ | ⟨a,b,h1,h2⟩ | ⟨a,b,h1,h2⟩
 · rcases h' with ⟨a',h1',h2'⟩ | ⟨a',b',h1',h2'⟩ | ⟨a',b',h1',h2'⟩
   · exact ⟨h1.trans h1'.symm,h2.trans h2'.symm⟩
   · exact absurd a' a
   · exact absurd a' a
 · rcases h' with ⟨a',h1',h2'⟩ | ⟨a',b',h1',h2'⟩ | ⟨a',b',h1',h2'⟩
   · exact absurd a a'
   · exact ⟨h1.trans h1'.symm,h2.trans h2'.symm⟩
   · omega
 · rcases h' with ⟨a',h1',h2'⟩ | ⟨a',b',h1',h2'⟩ | ⟨a',b',h1',h2'⟩
   · exact absurd a a'
   · omega
   · exact ⟨h1.trans h1'.symm,h2.trans h2'.symm⟩
theorem mapIs_ok {A T:List Int} {f:Int -> Option Int} {n:Int} {r:List (Int×Int×Int)} (h:MapIs A f n r) (hf:∀S,(∀x,x∈S↔x∈A) -> MTurns S f) (hv:∀s v,f s=some v -> nearB v) (hA:∀x∈A,nearB x) (hT:∀x∈A,x∈T) (h2:T.length <= 200):n=0 /\ MOf T r /\ ∀t,tel r t=f t:=by
 obtain ⟨o,c,t,hm,F⟩:=mapIs_out h hf
 have hn:∀q∈o,NearP q:=fun q hq=>by
   obtain ⟨a1,a2,s,a3⟩:=hm q hq
   exact ⟨hA _ a1,hA _ a2,hv s _ a3⟩
 have M:MOf T o:=⟨c,hn,fun q hq=>⟨hT _ (hm q hq).1,hT _ (hm q hq).2.1⟩⟩
 obtain ⟨e1,e2⟩:=fitIs_unique F (.inr (.inr ⟨hn,by have:=M.len;omega,rfl,rfl⟩))
 subst e2
 exact ⟨e1,M,t⟩
set_option maxRecDepth 100000 in
set_option maxHeartbeats 2000000 in
theorem pick1_any (g:Nat) (bb:Bool) (eg:∀args w,(callFunc g args).run Seq.prog w= .ok (.enter g args) w) (hg:∀x w,Calls Seq.prog g #[.bool x] w fun e w' =>e= .returned (.bool (x==bb)) /\ w' =w)
   (Bm Bl Bw:Nat) (ao lo:Option Addr) (ca cl:Nat) (m:List (Int×Int×Int)) (l:List (Int×Int)) (t:Int) (w:World) (hA:PcAt w ao m) (hL:IvAt w lo l) (la:m.length <= 200) (ll:l.length <= 200)
   (c1:w.cell? ⟨Bm,0,none⟩=some (.slice ao m.length ca)) (c2:w.cell? ⟨Bl,0,none⟩=some (.slice lo l.length cl)) (c3:w.cell? ⟨Bw,0,none⟩=some (.func (.func g) #[] #[])):
   Calls Seq.prog 149 #[.int .i64 t,.pointer (some ⟨Bm,0,none⟩),.pointer (some ⟨Bw,0,none⟩),.pointer (some ⟨Bl,0,none⟩)] w fun e w' =>(∃x,e= .returned (.tuple #[.int .i64 x,.bool (onlyF m l bb t).isSome]) /\ ∀y,onlyF m l bb t=some y -> x=y) /\ Below w.heap.size w w':=by
 have hHa:=PAt_any ao ca m t w hA (by omega)
 have l2:=World.block_lt_of_cell? w _ c2
 have l3:=World.block_lt_of_cell? w _ c3
 simp only at l2 l3
 have HC:Hid (∀W,Below w.heap.size w W -> W.cell? ⟨Bl,0,none⟩=some (.slice lo l.length cl) /\ W.cell? ⟨Bw,0,none⟩=some (.func (.func g) #[] #[]) /\ Calls Seq.prog 24 #[.slice lo l.length cl,.int .i64 t] W fun e w' =>e= .returned (.bool (has l t)) /\ Below W.heap.size W w'):=fun W h=>
   ⟨(h.cell (p:=⟨Bl,0,none⟩) l2).trans c2,(h.cell (p:=⟨Bw,0,none⟩) l3).trans c3,Has_any lo cl l t W (hL.below h) (by omega)⟩
 clear hA hL c2 c3
 cases hx:tel m t with
 | none=>
   simp only [hx,Option.getD_none,Option.isSome_none] at hHa
   have HF:Hid (onlyF m l bb t=none):=by show _=_;unfold onlyF;rw [hx];split<;>rfl
   rw [HF.out]
   clear hx HF
   go_enter Seq.func149,Tryz.ntmps149
   go_wp2_with fail
   refine hHa.mono ?_
   rintro e w1 ⟨rfl,hb1⟩
   go_wp2_with fail
   go_quiet (fail)
   go_wp2
   go_ret2
   exact ⟨⟨0,rfl,fun y h=>by cases h⟩,below_drewN hb1 _⟩
 | some x=>
   simp only [hx,Option.getD_some,Option.isSome_some] at hHa
   have HF:Hid (onlyF m l bb t=if has l t=bb then some x else none):=by show _=_;unfold onlyF;rw [hx]
   rw [HF.out]
   clear hx HF
   generalize has l t=h at HC ⊢
   have hgh:=fun W=>hg h W
   have HR:Hid ((if h=bb then some x else none:Option Int).isSome=(h==bb)):=by
     show _=_
     cases h<;>cases bb<;>rfl
   have HY:Hid (∀y,(if h=bb then some x else none:Option Int)=some y -> x=y):=by
     intro y hy
     split at hy
     · cases hy;rfl
     · cases hy
   generalize (if h=bb then some x else none:Option Int)=o at HR HY ⊢
   rw [HR.out]
   clear HR
   generalize (h==bb)=q at hgh ⊢
   go_enter Seq.func149,Tryz.ntmps149
   go_wp2_with fail
   refine hHa.mono ?_
   rintro e W0 ⟨rfl,hb1⟩
   have HC2:Hid (∀s:HeldIn W0,s.w.cell? ⟨Bl,0,none⟩=some (.slice lo l.length cl) /\ s.w.cell? ⟨Bw,0,none⟩=some (.func (.func g) #[] #[]) /\ Calls Seq.prog 24 #[.slice lo l.length cl,.int .i64 t] s.w fun e w' =>e= .returned (.bool h) /\ Below s.w.heap.size s.w w'):=fun s=>HC.out s.w (ptw hb1 s.h)
   have f1:∀s:HeldIn W0,s.w.cell? ⟨Bl,0,none⟩=some (.slice lo l.length cl):=fun s=>(HC2.out s).1
   have f2:∀s:HeldIn W0,s.w.cell? ⟨Bw,0,none⟩=some (.func (.func g) #[] #[]):=fun s=>(HC2.out s).2.1
   have hne:Nonempty (HeldIn W0):=⟨⟨W0,Below.refl _ _⟩⟩
   go_wp2_with fail
   refine wp_region_held W0 (Below.refl _ _) (by kernel_rfl) (by kernel_rfl) ?_
   repeat (go_big_quiet_step ((first | (go_at_call 24;exact held_of (HC2.out _).2.2) | (go_at_fn g;exact held_same (hgh _)))))
   refine wpQuiet_nil ?_
   rintro _ ⟨s,rfl⟩
   have hbs:=ptw hb1 s.h
   generalize s.w=w1 at hbs ⊢
   clear f1 f2 hne HC2
   go_wp2
   go_ret2
   exact ⟨⟨x,rfl,HY.out⟩,hbs⟩
def OnlyIs (m:List (Int×Int×Int)) (l:List (Int×Int)) (bb:Bool) (n:Int) (r:List (Int×Int×Int)):Prop:=
 (¬mchk m=0 /\ n=mchk m /\ r=[]) \/ (mchk m=0 /\ ¬chk l=0 /\ n=chk l /\ r=[]) \/ (mchk m=0 /\ chk l=0 /\ MapIs (turnsOf m++flat l) (onlyF m l bb) n r)
theorem chk_bad {l:List (Int×Int)} (h:¬chk l=0):∃n,chk l=n /\ (n=2 \/ n=5):=by
 rcases chk_cases l with e | e | ⟨e,_⟩
 · exact ⟨2,e,.inl rfl⟩
 · exact ⟨5,e,.inr rfl⟩
 · exact absurd e h
theorem chk_good {l:List (Int×Int)} (h:chk l=0):l.length <= 200 /\ Canon l /\ ∀x∈flat l,nearB x:=by
 rcases chk_cases l with e | e | ⟨_,h1,h2,h3⟩
 · omega
 · omega
 · exact ⟨h1,canon_of_form h3,near_flat h2⟩
set_option maxRecDepth 100000 in
set_option maxHeartbeats 4000000 in
theorem pick_any (g:Nat) (bb:Bool) (eg:∀args w,(callFunc g args).run Seq.prog w= .ok (.enter g args) w) (hg:∀x w,Calls Seq.prog g #[.bool x] w fun e w' =>e= .returned (.bool (x==bb)) /\ w' =w)
   (ao lo:Option Addr) (ca cl:Nat) (m:List (Int×Int×Int)) (l:List (Int×Int)) (w:World) (hA:PcAt w ao m) (hL:IvAt w lo l):
   Calls Seq.prog 140 #[.slice ao m.length ca,.slice lo l.length cl,.func (.func g) #[] #[]] w fun e w' =>∃n r,OnlyIs m l bb n r /\ Told3 w w' e n r:=by
 have h1:=fun W (h:Below w.heap.size w W)=>PCheck_any ao ca m W (hA.below h)
 have h2:=fun W (h:Below w.heap.size w W)=>check_any lo cl l W (hL.below h)
 have B0:=bx3_start w (.slice ao m.length ca) (.slice lo l.length cl) (.func (.func g) #[] #[]) 41 22 214
 by_cases e1:¬mchk m=0
 · obtain ⟨n,en,hn⟩:=mchk_bad e1
   have HC:Hid (OnlyIs m l bb n []):= .inl ⟨e1,en.symm,rfl⟩
   simp only [en] at h1
   clear e1 en h2
   rcases hn with rfl | rfl
   all_goals
     go_enter Seq.func140,Tryz.ntmps140
     go_wp2_with fail
     refine (h1 _ B0.bel).mono ?_
     rintro e w1 ⟨rfl,hb1⟩
     have g1:=ptw B0.bel hb1
     clear B0 hb1
     go_wp2
     go_ret2
     exact ⟨_,_,HC.out,_,rfl,nil3 _ _,g1⟩
 rw [Decidable.not_not] at e1
 simp only [e1] at h1
 obtain ⟨la,_,na⟩:=mchk_good e1
 have HE1:Hid (mchk m=0):=e1
 clear e1 na
 by_cases e2:¬chk l=0
 · obtain ⟨n,en,hn⟩:=chk_bad e2
   have HC:Hid (OnlyIs m l bb n []):= .inr (.inl ⟨HE1.out,e2,en.symm,rfl⟩)
   simp only [en] at h2
   clear e2 en
   rcases hn with rfl | rfl
   all_goals
     go_enter Seq.func140,Tryz.ntmps140
     go_wp2_with fail
     refine (h1 _ B0.bel).mono ?_
     rintro e w1 ⟨rfl,hb1⟩
     have B1:=B0.below hb1
     have cc2:=B1.c2
     have g1:=B1.bel
     clear B0 hb1 B1
     go_wp2_with fail
     refine (h2 _ g1).mono ?_
     rintro e w2 ⟨rfl,hb2⟩
     have g2:=ptw g1 hb2
     clear g1 hb2 cc2
     go_wp2
     go_ret2
     exact ⟨_,_,HC.out,_,rfl,nil3 _ _,g2⟩
 rw [Decidable.not_not] at e2
 simp only [e2] at h2
 obtain ⟨ll,_,nl⟩:=chk_good e2
 have HE2:Hid (chk l=0):=e2
 clear e2 nl
 obtain ⟨i0,hi,hz0,hz1,hz2⟩:=info_parts Tryz.infoInt
 have hmf:∀(fn:Fn) (first cap:Array Value) (w:World),(Instr.makeFunc fn first cap).run Seq.prog w= .ok (.func fn first cap) w:=fun _ _ _ _=>rfl
 have HLN:Hid ((turnsOf m++flat l).length=2*m.length+2*l.length):=by show _=_;rw [List.length_append,turnsOf_length,flat_length]
 have hgo:Hid (∀w2,Bx3 w w2 (.slice ao m.length ca) (.slice lo l.length cl) (.func (.func g) #[] #[]) -> ∀W gg cap1,W.ownsRow w2.heap.size 3 1 (.slice (some ⟨gg,0,none⟩) (2*m.length+2*l.length) cap1) (2*m.length+2*l.length) ((turnsOf m++flat l).map (Value.int .i64)) -> Below w2.heap.size w2 W ->
     Calls Seq.prog 42 #[.slice (some ⟨gg,0,none⟩) (2*m.length+2*l.length) cap1,.func (.func 149) #[] #[.pointer (some ⟨w.heap.size,0,none⟩),.pointer (some ⟨w.heap.size+1+1,0,none⟩),.pointer (some ⟨w.heap.size+1,0,none⟩)]] W fun e w' =>∃n r v',OnlyIs m l bb n r /\ e= .returned (.tuple #[v',.int .i64 n]) /\ w'.ownsRow w.heap.size 54 3 v' r.length (enc3 r) /\ Below w2.heap.size w2 w'):=by
   intro w2 B2 W gg cap1 hv hbW
   have hp:∀t wq,Below w2.heap.size w2 wq -> Calls Seq.prog 149 (#[.int .i64 t]++#[.pointer (some ⟨w.heap.size,0,none⟩),.pointer (some ⟨w.heap.size+1+1,0,none⟩),.pointer (some ⟨w.heap.size+1,0,none⟩)]) wq fun e w' =>(∃x,e= .returned (.tuple #[.int .i64 x,.bool (onlyF m l bb t).isSome]) /\ ∀y,onlyF m l bb t=some y -> x=y) /\ Below wq.heap.size wq w':=by
     intro t wq hq
     have Bq:=B2.below hq
     exact pick1_any g bb eg hg w.heap.size (w.heap.size+1) (w.heap.size+1+1) ao lo ca cl m l t wq (hA.below Bq.bel) (hL.below Bq.bel) la ll Bq.c1 Bq.c2 Bq.c3
   have hbl:=build_own 149 _ (onlyF m l bb) (enters_of Seq.func149 (by kernel_rfl) rfl) w2 W hbW hp gg cap1 (turnsOf m++flat l) (by rw [HLN.out];exact hv) (by rw [HLN.out];omega)
   rw [HLN.out] at hbl
   refine hbl.mono ?_
   rintro e w' ⟨n,r,v',hM,rfl,ho,hb⟩
   exact ⟨n,r,v',.inr (.inr ⟨HE1.out,HE2.out,hM⟩),rfl,ownsRow_base ho B2.bel.size,hb⟩
 have HPA:Hid (∀W,Below w.heap.size w W -> PcAt W ao m /\ IvAt W lo l):=fun W h=>⟨hA.below h,hL.below h⟩
 clear hA hL hg
 go_enter Seq.func140,Tryz.ntmps140
 go_wp2_with fail
 refine (h1 _ B0.bel).mono ?_
 rintro e w1 ⟨rfl,hb1⟩
 have B1:=B0.below hb1
 have cc2:=B1.c2
 have g1:=B1.bel
 clear B0 hb1
 go_wp2_with fail
 refine (h2 _ g1).mono ?_
 rintro e w2 ⟨rfl,hb2⟩
 have B2:=B1.below hb2
 clear g1 hb2 cc2 B1 h1 h2
 have cc1:=B2.c1
 have HB2:=hide3 B2
 have HGF:=hide3 (hgo.out w2 B2)
 clear hgo
 go_wp2_with fail
 refine (pbounds_any ao ca m w2 (HPA.out w2 B2.bel).1 la).mono ?_
 rintro e w3 ⟨g3,rfl,hown3,hb3⟩
 have cc2:=(B2.below hb3).c2
 have HPL:=hide3 (fun W (h:Below w2.heap.size w2 W)=>(HPA.out W (ptw B2.bel h)).2)
 have HBel:=hide3 B2.bel
 clear B2 cc1 HPA
 go_wp2_with fail
 go_loopw [10,27] (fun v i wr=>∃(k gg cc:Nat),k <= l.length /\ i= .int .i64 k /\ v= .slice (some ⟨gg,0,none⟩) (2*m.length+2*k) cc /\ wr.ownsRow w2.heap.size 3 1 (.slice (some ⟨gg,0,none⟩) (2*m.length+2*k) cc) (2*m.length+2*k) ((turnsOf m++flat (l.take k)).map (Value.int .i64)) /\ Below w2.heap.size w2 wr) (fun _ i _=>l.length-(intOf i).toNat)
 case atStart=>exact ⟨0,g3,2*m.length,Nat.zero_le _,rfl,rfl,by simpa [flat] using hown3,hb3⟩
 case round=>
   obtain ⟨k,gg,cc,hk,rfl,rfl,hown,hb⟩:=hrel
   have hsz:=hb.size
   by_cases hlt:k<l.length
   · rcases HPL.out wr hb with h0 | ⟨b,off,rfl,hbw,hc⟩
     · subst h0;simp at hlt
     obtain ⟨c0,c1⟩:=hc k hlt
     have hg:l.getD k (0,0)=l[k]:=by simp [List.getD_eq_getElem?_getD,List.getElem?_eq_getElem hlt]
     rw [hg] at c0 c1
     clear hc hg
     go_wp2_with (at_builtin;refine wpList_append_lies _ rfl _ _ 37 rfl w2.heap.size 3 i0 (.int .i64 0) 1 8 ((Seq.pu 37).trans Tryz.underlying37) hi hz0 hz1 hz2 rfl (by decide) _ (2*m.length+2*k) _ rfl ((hown.alloc _).alloc _) ⟨wr.heap.size+1,0,none⟩ 2 2 [.int .i64 l[k].1,.int .i64 l[k].2] rfl rfl ?c1 ?c2 ?c3 ?c4 ?c5 ?c6 _ rfl ?_)
     case c1=>exact cells_two_new _ _ _ _ _ (by simp)
     case c2=>intro u hu;simp at hu;rcases hu with rfl | rfl<;>rfl
     case c3=>omega
     case c4=>unfold maxLen;omega
     case c5=>omega
     case c6=>simp;omega
     intro g5 cap5 w5 hown5 hgrow hat hltg
     have R:w5.ownsRow w2.heap.size 3 1 (.slice (some ⟨g5,0,none⟩) (2*m.length+2*(k+1)) cap5) (2*m.length+2*(k+1)) ((turnsOf m++flat (l.take (k+1))).map (Value.int .i64)):=by
       rw [flat_succ l k hlt];simp only [List.map_append,List.map_cons,List.map_nil];exact hown5
     have hb' :Below w2.heap.size w2 w5:=((hb.alloc hsz _).alloc (by simp;omega) _).grown hgrow (by simp;omega) (fun j hj=>(hown.lt j hj).1)
     clear hown hown5 hgrow hat hltg
     go_wp2
     go_roundw
     case rel=>exact ⟨k+1,g5,cap5,by omega,by go_num,rfl,R,hb'⟩
     case measure=>simp [intOf];omega
   · have hkl:k=l.length:=by omega
     subst hkl
     rw [List.take_length] at hown
     have hbl:=HGF.out wr gg cc hown hb
     clear hown
     go_wp2_with fail
     refine hbl.mono ?_
     rintro e w6 ⟨n6,r6,v6,hM6,rfl,ho6,hb6⟩
     have HM6:=hide3 hM6
     have hbF:Below w.heap.size w w6:=ptw HBel.out hb6
     clear hM6 hb6 hbl
     go_wp2
     go_ret2
     exact ⟨n6,r6,HM6.out,v6,rfl,ho6,hbF⟩
theorem Keep_fn (x:Bool) (w:World):Calls Seq.prog 141 #[.bool x] w fun e w' =>e= .returned (.bool (x==true)) /\ w' =w:=by
 cases x
 all_goals
   go_enter Seq.func141,Tryz.ntmps141
   go_wp2
   go_ret
   exact ⟨rfl,rfl⟩
theorem Keep_any (ao lo:Option Addr) (ca cl:Nat) (m:List (Int×Int×Int)) (l:List (Int×Int)) (w:World) (hA:PcAt w ao m) (hL:IvAt w lo l):
   Calls Seq.prog 124 #[.slice ao m.length ca,.slice lo l.length cl] w fun e w' =>∃n r,OnlyIs m l true n r /\ Told3 w w' e n r:=by
 have hc:=pick_any 141 true (enters_of Seq.func141 (by kernel_rfl) rfl) Keep_fn ao lo ca cl m l w hA hL
 go_enter Seq.func124,Tryz.ntmps124
 go_wp2_with fail
 refine hc.mono ?_
 rintro e w1 ⟨n,r,hC,v,rfl,ho,hb⟩
 go_wp2
 go_ret2
 exact ⟨_,_,hC,_,rfl,ho,hb⟩
def T100:List Int:=(List.range 101).map fun i:Nat=>(i:Int)
theorem mem_T100 {x:Int}:x∈T100↔0 <= x /\ x <= 100:=by
 unfold T100
 rw [List.mem_map]
 constructor
 · rintro ⟨i,hi,rfl⟩;rw [List.mem_range] at hi;omega
 · intro h;exact ⟨x.toNat,by rw [List.mem_range];omega,by omega⟩
theorem T100_len:T100.length=101:=by simp [T100]
structure Sm (B:Int) (m:List (Int×Int×Int)):Prop where
 canon:MCan m
 time:∀q∈m,0 <= q.1 /\ q.2.1 <= 100
 vals:∀q∈m,0 <= q.2.2 /\ q.2.2 <= B
theorem sm_nil (B:Int):Sm B []:=⟨trivial,fun q hq=>(by cases hq),fun q hq=>(by cases hq)⟩
theorem Sm.mono {B B' :Int} {m:List (Int×Int×Int)} (h:Sm B m) (hB:B <= B'):Sm B' m:=⟨h.canon,h.time,fun q hq=>by have:=h.vals q hq;omega⟩
theorem Sm.of {B:Int} {m:List (Int×Int×Int)} (h:Sm B m) (hB:B <= 1000000):MOf T100 m:=by
 refine ⟨h.canon,fun q hq=> ?_,fun q hq=> ?_⟩
 · have h1:=h.time q hq
   have h2:=h.vals q hq
   have h3:=mcan_pos h.canon q hq
   unfold NearP nearB;omega
 · have h1:=h.time q hq
   have h3:=mcan_pos h.canon q hq
   exact ⟨mem_T100.2 (by omega),mem_T100.2 (by omega)⟩
theorem Sm.len {B:Int} {m:List (Int×Int×Int)} (h:Sm B m) (hB:B <= 1000000):m.length <= 101:=by have:=(h.of hB).len;rw [T100_len] at this;exact this
theorem Sm.chk {B:Int} {m:List (Int×Int×Int)} (h:Sm B m) (hB:B <= 1000000):mchk m=0:=(h.of hB).chk (by rw [T100_len];omega)
theorem Sm.turns {B:Int} {m:List (Int×Int×Int)} (h:Sm B m) (hB:B <= 1000000):∀x∈turnsOf m,0 <= x /\ x <= 100:=fun x hx=>mem_T100.1 ((h.of hB).turns x hx)
theorem tel_start:∀{m:List (Int×Int×Int)},MCan m -> ∀q∈m,tel m q.1=some q.2.2
 | [],_,q,hq=>by cases hq
 | p::m,h,q,hq=>by
   rcases List.mem_cons.1 hq with rfl | hq
   · exact tel_first (Int.le_refl _) h.1
   · rw [tel_later (mcan_low h q hq)];exact tel_start h.2.2 q hq
theorem Sm.tel {B:Int} {m:List (Int×Int×Int)} (h:Sm B m) {t v:Int} (e:tel m t=some v):(0 <= v /\ v <= B) /\ 0 <= t /\ t<100:=by
 obtain ⟨q,hq,h1,rfl⟩:=tel_mem e
 unfold inP at h1
 have:=h.time q hq
 simp at h1
 exact ⟨h.vals q hq,by omega,by omega⟩
theorem sm_map {A:List Int} {f:Int -> Option Int} {n B:Int} {r:List (Int×Int×Int)} (h:MapIs A f n r) (hf:∀S,(∀x,x∈S↔x∈A) -> MTurns S f) (hB:B <= 1000000) (hv:∀s v,f s=some v -> 0 <= v /\ v <= B) (hA:∀x∈A,0 <= x /\ x <= 100):n=0 /\ Sm B r /\ ∀t,Go.Proofs.YtfphigmeppdocaaGreat.Q.tel r t=f t:=by
 obtain ⟨h1,h2,h3⟩:=mapIs_ok (T:=T100) h hf (fun s v e=>by have:=hv s v e;unfold nearB;omega) (fun x hx=>by have:=hA x hx;unfold nearB;omega) (fun x hx=>mem_T100.2 (hA x hx)) (by rw [T100_len];omega)
 refine ⟨h1,⟨h2.canon,fun q hq=>⟨(mem_T100.1 (h2.mem q hq).1).1,(mem_T100.1 (h2.mem q hq).2).2⟩,fun q hq=> ?_⟩,h3⟩
 exact hv q.1 _ (by rw [<- h3];exact tel_start h2.canon q hq)
theorem sm_merge {a b r:List (Int×Int×Int)} {n B:Int} (ha:Sm B a) (hb:Sm B b) (hB:B <= 1000000) (h:MergeIs a b 1 n r):n=0 /\ Sm B r /\ ∀t,tel r t=mrg 1 (tel a t) (tel b t):=by
 rcases h with ⟨e,_⟩ | ⟨_,e,_⟩ | ⟨_,_,e,_⟩ | ⟨_,_,_,h⟩
 · exact absurd (ha.chk hB) e
 · exact absurd (hb.chk hB) e
 · exact absurd (.inl rfl) e
 · refine sm_map h (fun S hS=>mergeF_turns hS) hB (fun s v e=> ?_) (fun x hx=> ?_)
   · unfold mergeF at e
     cases e1:tel a s with
     | none=>
       rw [e1] at e
       exact (hb.tel e).1
     | some x=>
       cases e2:tel b s with
       | none=>rw [e1,e2] at e;cases e;exact (ha.tel e1).1
       | some y=>
         rw [e1,e2] at e
         have:=(ha.tel e1).1
         have:=(hb.tel e2).1
         have:v=min x y:=(Option.some.inj e).symm
         omega
   · rcases List.mem_append.1 hx with hx | hx
     · exact ha.turns hB x hx
     · exact hb.turns hB x hx
theorem sm_put {m r:List (Int×Int×Int)} {p:Int×Int×Int} {n B:Int} (hm:Sm B m) (h1:0 <= p.1 /\ p.1 <= 100 /\ 0 <= p.2.1 /\ p.2.1 <= 100) (h2:0 <= p.2.2 /\ p.2.2 <= B) (hB:B <= 1000000) (h:PutIs m p n r):n=0 /\ Sm B r /\ ∀t,tel r t=putF m p t:=by
 rcases h with ⟨e,_⟩ | ⟨_,e,_⟩ | ⟨_,_,h⟩
 · exact absurd (hm.chk hB) e
 · exact absurd (by unfold NearP nearB;omega) e
 · refine sm_map h (fun S hS=>putF_turns hS) hB (fun s v e=> ?_) (fun x hx=> ?_)
   · unfold putF at e
     split at e
     · cases e;exact h2
     · exact (hm.tel e).1
   · rcases List.mem_append.1 hx with hx | hx
     · exact hm.turns hB x hx
     · simp at hx;omega
theorem sm_keep {m r:List (Int×Int×Int)} {f t n B:Int} (hm:Sm B m) (h1:0 <= f /\ f<t /\ t <= 100) (hB:B <= 1000000) (h:OnlyIs m [(f,t)] true n r):n=0 /\ Sm B r /\ ∀s,tel r s=if f <= s /\ s<t then tel m s else none:=by
 have hc:chk [(f,t)]=0:=chk_of_canon (by unfold Canon;simp [flat];omega) (by intro x hx;simp [flat] at hx;unfold nearB;omega) (by simp)
 rcases h with ⟨e,_⟩ | ⟨_,e,_⟩ | ⟨_,_,h⟩
 · exact absurd (hm.chk hB) e
 · exact absurd hc e
 · obtain ⟨g1,g2,g3⟩:=sm_map h (fun S hS=>onlyF_turns hS) hB (fun s v e=>by unfold onlyF at e;split at e;exact (hm.tel e).1;cases e) (fun x hx=>by
     rcases List.mem_append.1 hx with hx | hx
     · exact hm.turns hB x hx
     · simp [flat] at hx;omega)
   refine ⟨g1,g2,fun s=> ?_⟩
   rw [g3 s]
   unfold onlyF
   by_cases hs:f <= s /\ s<t
   · rw [if_pos hs,if_pos (by simp [has,hs])]
   · rw [if_neg hs,if_neg (by simp [has];omega)]
def addM (m:List (Int×Int×Int)) (k:Int):List (Int×Int×Int):=m.map fun q=>(q.1,q.2.1,q.2.2+k)
theorem addM_mcan (k:Int):∀{m:List (Int×Int×Int)},MCan m -> MCan (addM m k)
 | [],_=>trivial
 | p::m,h=>by
   refine ⟨h.1,fun q hq=> ?_,addM_mcan k h.2.2⟩
   cases m with
   | nil=>simp at hq
   | cons z m=>
     have e:q=(z.1,z.2.1,z.2.2+k):=by simpa [eq_comm] using hq
     subst e
     have:=h.2.1 z (by simp)
     unfold Fol at this ⊢
     simp at this ⊢
     omega
theorem addM_tel (k:Int):∀(m:List (Int×Int×Int)) (t:Int),tel (addM m k) t=(tel m t).map (·+k)
 | [],t=>rfl
 | p::m,t=>by
   show tel ((p.1,p.2.1,p.2.2+k)::addM m k) t=_
   rw [tel_cons,tel_cons,addM_tel k m t]
   have:inP (p.1,p.2.1,p.2.2+k) t=inP p t:=rfl
   rw [this]
   split<;>rfl
theorem sm_add {B k:Int} {m:List (Int×Int×Int)} (h:Sm B m) (hk:0 <= k):Sm (B+k) (addM m k):=by
 refine ⟨addM_mcan k h.canon,fun q hq=> ?_,fun q hq=> ?_⟩
 all_goals
   unfold addM at hq
   rw [List.mem_map] at hq
   obtain ⟨z,hz,rfl⟩:=hq
 · exact h.time z hz
 · have:=h.vals z hz
   show 0 <= z.2.2+k /\ z.2.2+k <= B+k
   omega
structure RndIs (W:List Ac) (p:Ac -> Int) (x y:List Int):Prop where
 len:y.length=x.length
 le:∀v,v<x.length -> y.getD v 0 <= x.getD v 0
 tell:∀a∈W,y.getD a.2.1.toNat 0 <= x.getD a.1.toNat 0+p a
 from_:∀v,v<x.length -> y.getD v 0=x.getD v 0 \/ ∃a∈W,a.2.1.toNat=v /\ y.getD v 0=x.getD a.1.toNat 0+p a
theorem rndIs_unique {W:List Ac} {p:Ac -> Int} {x y y' :List Int} (h:RndIs W p x y) (h' :RndIs W p x y'):y=y':=by
 have half:∀{y y' :List Int},RndIs W p x y -> RndIs W p x y' -> ∀v,v<x.length -> y.getD v 0 <= y'.getD v 0:=by
   intro y y' h h' v hv
   rcases h'.from_ v hv with e | ⟨a,ha,rfl,e⟩
   · rw [e];exact h.le v hv
   · rw [e];exact h.tell a ha
 apply List.ext_getElem (by rw [h.len,h'.len])
 intro i h1 h2
 have a:=half h h' i (by rw [<- h.len];exact h1)
 have b:=half h' h i (by rw [<- h.len];exact h1)
 simp only [List.getD_eq_getElem?_getD,List.getElem?_eq_getElem h1,List.getElem?_eq_getElem h2,Option.getD_some] at a b
 omega
structure RnIs (arcs:List Ac) (p:Ac -> Int) (back:Bool) (x z:List Int):Prop where
 len:z.length=x.length
 le:∀v,v<x.length -> z.getD v 0 <= x.getD v 0
 tell:∀a∈ways back arcs,z.getD a.2.1.toNat 0 <= x.getD a.1.toNat 0+p a
 from_:∀v,v<x.length -> z.getD v 0=x.getD v 0 \/ ∃a∈ways back arcs,a.2.1.toNat=v /\ z.getD v 0=x.getD a.1.toNat 0+p a
theorem ways_append (back:Bool) (l:List Ac) (a:Ac):ways back (l++[a])=ways back l++if back=true then [a,(a.2.1,a.1,a.2.2)] else [a]:=by
 unfold ways bothW
 cases back<;>simp
theorem set_min (z:List Int) (k:Nat) (m:Int) (hk:k<z.length) (v:Nat):(z.set k (min (z.getD k 0) m)).getD v 0=if v=k then min (z.getD k 0) m else z.getD v 0:=getD_set _ _ _ _ hk
theorem rnIs_one {x z:List Int} {p:Ac -> Int} {W:List Ac} {k:Nat} {b:Ac} (hz:z.length=x.length) (hk:k<x.length) (hb:b.2.1.toNat=k)
   (le:∀v,v<x.length -> z.getD v 0 <= x.getD v 0) (tell:∀a∈W,z.getD a.2.1.toNat 0 <= x.getD a.1.toNat 0+p a)
   (from_:∀v,v<x.length -> z.getD v 0=x.getD v 0 \/ ∃a∈W,a.2.1.toNat=v /\ z.getD v 0=x.getD a.1.toNat 0+p a) (m:Int) (hm:m=x.getD b.1.toNat 0+p b):
   (∀v,v<x.length -> (z.set k (min (z.getD k 0) m)).getD v 0 <= x.getD v 0) /\ (∀a∈W++[b],(z.set k (min (z.getD k 0) m)).getD a.2.1.toNat 0 <= x.getD a.1.toNat 0+p a) /\
   (∀v,v<x.length -> (z.set k (min (z.getD k 0) m)).getD v 0=x.getD v 0 \/ ∃a∈W++[b],a.2.1.toNat=v /\ (z.set k (min (z.getD k 0) m)).getD v 0=x.getD a.1.toNat 0+p a):=by
 have low:∀v,(z.set k (min (z.getD k 0) m)).getD v 0 <= z.getD v 0:=by
   intro v
   rw [set_min z k m (by omega)]
   split
   · rename_i e;subst e;omega
   · exact Int.le_refl _
 refine ⟨fun v hv=>Int.le_trans (low v) (le v hv),fun a ha=> ?_,fun v hv=> ?_⟩
 · rcases List.mem_append.1 ha with ha | ha
   · exact Int.le_trans (low _) (tell a ha)
   · rw [List.mem_singleton] at ha
     subst ha
     rw [set_min z k m (by omega),if_pos hb,hm]
     omega
 · rw [set_min z k m (by omega)]
   by_cases e:v=k
   · subst e
     rw [if_pos rfl]
     by_cases hl:z.getD v 0 <= m
     · rw [show min (z.getD v 0) m=z.getD v 0 by omega]
       rcases from_ v hv with h | ⟨a,ha,h1,h2⟩
       · exact .inl h
       · exact .inr ⟨a,List.mem_append_left _ ha,h1,h2⟩
     · exact .inr ⟨b,by simp,hb,by rw [show min (z.getD v 0) m=m by omega];exact hm⟩
   · rw [if_neg e]
     rcases from_ v hv with h | ⟨a,ha,h1,h2⟩
     · exact .inl h
     · exact .inr ⟨a,List.mem_append_left _ ha,h1,h2⟩
theorem rnd_is {arcs:List Ac} {p:Ac -> Int} {back:Bool} {x:List Int} (he:back=true -> Even p) (hE:EndsIn x.length arcs):RndIs (ways back arcs) p x (rnd arcs p back x):=by
 have key:∀i,i <= arcs.length -> RnIs (arcs.take i) p back x ((arcs.take i).foldl (rel1 p back x) x):=by
   intro i
   induction i with
   | zero=>
     intro _
     refine ⟨rfl,fun _ _=>Int.le_refl _,fun a ha=> ?_,fun v _=> .inl rfl⟩
     simp [ways,bothW] at ha
   | succ i ih=>
     intro hi
     have hi' :i<arcs.length:=hi
     obtain ⟨h1,h2,h3,h4⟩:=ih (by omega)
     have en:=hE arcs[i] (List.getElem_mem hi')
     rw [fold_take arcs p back x i hi',List.take_succ_eq_append_getElem hi']
     generalize (arcs.take i).foldl (rel1 p back x) x=z at h1 h2 h3 h4 ⊢
     generalize arcs[i]=a at en ⊢
     generalize arcs.take i=l at h3 h4 ⊢
     obtain ⟨q1,q2,q3⟩:=rnIs_one (b:=a) (k:=a.2.1.toNat) h1 (by omega) rfl h2 h3 h4 (x.getD a.1.toNat 0+p a) rfl
     unfold rel1 vat
     cases back with
     | false=>
       simp only [Bool.false_eq_true,if_false]
       refine ⟨by rw [List.length_set];exact h1,q1,?_,?_⟩
       · rw [ways_append];simpa using q2
       · rw [ways_append];simpa using q3
     | true=>
       simp only [if_true]
       obtain ⟨r1,r2,r3⟩:=rnIs_one (z:=z.set a.2.1.toNat (min (z.getD a.2.1.toNat 0) (x.getD a.1.toNat 0+p a))) (b:=(a.2.1,a.1,a.2.2)) (k:=a.1.toNat) (by rw [List.length_set];exact h1) (by omega) rfl q1 q2 q3 (x.getD a.2.1.toNat 0+p a) (by rw [he rfl a])
       refine ⟨by rw [List.length_set,List.length_set];exact h1,r1,?_,?_⟩
       · rw [ways_append];simpa [List.append_assoc] using r2
       · rw [ways_append];simpa [List.append_assoc] using r3
 obtain ⟨h1,h2,h3,h4⟩:=key arcs.length (Nat.le_refl _)
 rw [List.take_length] at h1 h2 h3 h4
 exact ⟨h1,h2,h3,h4⟩
structure NewAt (W:List Ac) (p:Ac -> Int) (x:List Int) (nw:Nat -> Option Int):Prop where
 val:∀v z,v<x.length -> nw v=some z -> z=x.getD v 0
 old:∀a∈W,nw a.1.toNat=none -> x.getD a.2.1.toNat 0 <= x.getD a.1.toNat 0+p a
structure HeardAt (W:List Ac) (p:Ac -> Int) (nw he:Nat -> Option Int):Prop where
 most:∀a∈W,∀z,nw a.1.toNat=some z -> ∃h,he a.2.1.toNat=some h /\ h <= z+p a
 from_:∀v h,he v=some h -> ∃a∈W,a.2.1.toNat=v /\ ∃z,nw a.1.toNat=some z /\ h=z+p a
theorem news_round {W:List Ac} {p:Ac -> Int} {x y:List Int} {nw he:Nat -> Option Int} (hE:EndsIn x.length W) (hN:NewAt W p x nw) (hH:HeardAt W p nw he) (hR:RndIs W p x y):
   ∀v,v<x.length -> y.getD v 0=(match he v with | some h=>min (x.getD v 0) h | none=>x.getD v 0):=by
 have h2:RndIs W p x ((List.range x.length).map fun v=>match he v with | some h=>min (x.getD v 0) h | none=>x.getD v 0):=by
   have g:∀v,v<x.length -> ((List.range x.length).map fun v=>match he v with | some h=>min (x.getD v 0) h | none=>x.getD v 0).getD v 0=match he v with | some h=>min (x.getD v 0) h | none=>x.getD v 0:=by
     intro v hv
     rw [List.getD_eq_getElem?_getD,List.getElem?_map,List.getElem?_range hv];rfl
   refine ⟨by simp,fun v hv=> ?_,fun a ha=> ?_,fun v hv=> ?_⟩
   · rw [g v hv]
     cases he v with
     | none=>exact Int.le_refl _
     | some h=>show min _ _ <= _;omega
   · have en:=hE a ha
     rw [g _ (by omega)]
     cases hn:nw a.1.toNat with
     | none=>
       have:=hN.old a ha hn
       cases he a.2.1.toNat with
       | none=>exact this
       | some h=>show min _ _ <= _;omega
     | some z=>
       have hz:=hN.val _ z (by omega) hn
       obtain ⟨h,e1,e2⟩:=hH.most a ha z hn
       rw [e1]
       show min _ _ <= _
       omega
   · rw [g v hv]
     cases hh:he v with
     | none=>exact .inl rfl
     | some h=>
       by_cases hl:x.getD v 0 <= h
       · left;show min _ _=_;omega
       · obtain ⟨a,ha,e1,z,e2,e3⟩:=hH.from_ v h hh
         have en:=hE a ha
         have hz:=hN.val _ z (by omega) e2
         refine .inr ⟨a,ha,e1,?_⟩
         show min _ _=_
         rw [<- hz];omega
 intro v hv
 rw [rndIs_unique hR h2]
 rw [List.getD_eq_getElem?_getD,List.getElem?_map,List.getElem?_range hv];rfl
def newsOf (x y:List Int) (v:Nat):Option Int:=if y.getD v 0<x.getD v 0 then some (y.getD v 0) else none
theorem news_next {W:List Ac} {p:Ac -> Int} {x y:List Int} (hE:EndsIn x.length W) (hR:RndIs W p x y):NewAt W p y (newsOf x y):=by
 refine ⟨fun v z _ h=> ?_,fun a ha h=> ?_⟩
 · unfold newsOf at h
   split at h
   · cases h;rfl
   · cases h
 · have en:=hE a ha
   have h1:=hR.tell a ha
   have h2:=hR.le a.1.toNat (by omega)
   unfold newsOf at h
   split at h
   · cases h
   · omega
theorem news_first {W:List Ac} {p:Ac -> Int} {x:List Int} (nw:Nat -> Option Int) (hp:∀a∈W,0 <= p a) (hE:EndsIn x.length W) (hi:∀v,v<x.length -> x.getD v 0 <= 1099511627776) (h:∀v,v<x.length -> nw v=if x.getD v 0<1099511627776 then some (x.getD v 0) else none):NewAt W p x nw:=by
 refine ⟨fun v z hv hz=> ?_,fun a ha hn=> ?_⟩
 · rw [h v hv] at hz
   split at hz
   · cases hz;rfl
   · cases hz
 · have en:=hE a ha
   have h1:=hp a ha
   have h2:=hi a.2.1.toNat (by omega)
   rw [h _ (by omega)] at hn
   split at hn
   · cases hn
   · omega
theorem news_none {W:List Ac} {p:Ac -> Int} {x y:List Int} (hR:RndIs W p x y) (h:∀v,v<x.length -> newsOf x y v=none):y=x:=by
 apply List.ext_getElem hR.len
 intro i h1 h2
 have a:=hR.le i h2
 have b:=h i h2
 unfold newsOf at b
 split at b
 · cases b
 · rename_i c
   simp only [List.getD_eq_getElem?_getD,List.getElem?_eq_getElem h1,List.getElem?_eq_getElem h2,Option.getD_some] at a c
   omega
theorem lg_low {h:Int}:∀{ls:List Lg} {p:Int},lgChk h p ls=0 -> ∀l∈ls,p <= l.1
 | [],_,_,l,hl=>by cases hl
 | q::ls,p,hk,l,hl=>by
   unfold lgChk at hk
   split at hk
   · cases hk
   · rename_i hf
     split at hk
     · cases hk
     · rename_i hp
       rcases List.mem_cons.1 hl with rfl | hl
       · omega
       · have h1:=lg_low hk l hl
         have h2:=(fitB_iff _ _).1 (by simpa using hf)
         omega
theorem lgFind_all {h t:Int}:∀{ls:List Lg} {p:Int},lgChk h p ls=0 -> ∀l∈ls,l.1 <= t -> t<l.2.1 -> lgFind t ls=some l
 | [],_,_,l,hl,_,_=>by cases hl
 | q::ls,p,hk,l,hl,h1,h2=>by
   unfold lgChk at hk
   split at hk
   · cases hk
   · rename_i hf
     split at hk
     · cases hk
     · rename_i hp
       rw [lgFind]
       rcases List.mem_cons.1 hl with rfl | hl
       · rw [if_pos ((hasB_iff _ _ _).2 ⟨h1,h2⟩)]
       · have h3:=lg_low hk l hl
         rw [if_neg (by rw [hasB_iff];omega)]
         exact lgFind_all hk l hl h1 h2
theorem legs_ord {g:Gr} (h:gChk g=0) {e:Ed} (he:e∈g.edges):lgChk g.hor 0 e.2.2=0:=by
 unfold gChk at h
 split at h
 · cases h
 · split at h
   · cases h
   · split at h
     · cases h
     · have:=eds_all h e he
       unfold edChk at this
       split at this
       · cases this
       · split at this
         · cases this
         · exact this
theorem mem_arcs {g:Gr} (h0:gChk g=0) {t:Int} {a:Ac}:a∈arcsL t g.lives g.edges↔∃e∈g.edges,∃l∈e.2.2,l.1 <= t /\ t<l.2.1 /\ aliveB t g.lives e.1=true /\ aliveB t g.lives e.2.1=true /\ a=(e.1,e.2.1,l.2.2.2):=by
 unfold arcsL
 rw [List.mem_flatMap]
 constructor
 · rintro ⟨e,he,ha⟩
   unfold arcOf at ha
   split at ha
   · cases ha
   · rename_i l hl
     split at ha
     · rename_i hal
       rw [Bool.and_eq_true] at hal
       rw [List.mem_singleton] at ha
       obtain ⟨h1,h2,h3⟩:=lgFind_mem hl
       exact ⟨e,he,l,h1,h2,h3,hal.1,hal.2,ha⟩
     · cases ha
 · rintro ⟨e,he,l,hl,h1,h2,h3,h4,rfl⟩
   refine ⟨e,he,?_⟩
   rw [arcOf_some (lgFind_all (legs_ord h0 he) l hl h1 h2) (by rw [h3,h4];rfl)]
   simp
abbrev Pt:=Int×Int×Int×Int×Int
def lifeOf (g:Gr) (v:Int):Int×Int:=g.lives.getD v.toNat (0,0)
def pthOf (g:Gr) (p:Nat) (e:Ed) (l:Lg):Pt:=
 (e.1,e.2.1,max l.1 (max (lifeOf g e.1).1 (lifeOf g e.2.1).1),min l.2.1 (min (lifeOf g e.1).2 (lifeOf g e.2.1).2),priceOf p (e.1,e.2.1,l.2.2.2))
def pthsL (g:Gr) (p:Nat) (e:Ed) (l:Lg):List Pt:=
 if (pthOf g p e l).2.2.2.1 <= (pthOf g p e l).2.2.1 then [] else if p=3 then [pthOf g p e l,((pthOf g p e l).2.1,(pthOf g p e l).1,(pthOf g p e l).2.2)] else [pthOf g p e l]
def pathsF (g:Gr) (p:Nat):List Pt:=g.edges.flatMap fun e=>e.2.2.flatMap fun l=>pthsL g p e l
theorem alive_life {g:Gr} {v t:Int} (h0:0 <= v) (h1:v<g.lives.length):aliveB t g.lives v=true↔(lifeOf g v).1 <= t /\ t<(lifeOf g v).2:=by
 obtain ⟨V,rfl⟩:∃V:Nat,v=(V:Int):=⟨v.toNat,by omega⟩
 rw [aliveB_at t g.lives V (by omega),hasB_iff]
 unfold lifeOf
 rw [Int.toNat_natCast,List.getD_eq_getElem?_getD,List.getElem?_eq_getElem (by omega)]
 rfl
theorem priceOf_even (p:Nat):Even (priceOf p):=fun a=>by unfold priceOf;rfl
theorem paths_iff {g:Gr} (h0:gChk g=0) {p:Nat} {t a b m:Int}:
   (∃π∈pathsF g p,π.1=a /\ π.2.1=b /\ π.2.2.2.2=m /\ π.2.2.1 <= t /\ t<π.2.2.2.1)↔∃α∈ways (decide (p=3)) (arcsL t g.lives g.edges),α.1=a /\ α.2.1=b /\ priceOf p α=m:=by
 have R:=gChk_right h0
 have one:∀{e:Ed},e∈g.edges -> ∀{l:Lg},((pthOf g p e l).2.2.1 <= t /\ t<(pthOf g p e l).2.2.2.1)↔(l.1 <= t /\ t<l.2.1) /\ aliveB t g.lives e.1=true /\ aliveB t g.lives e.2.1=true:=by
   intro e he l
   obtain ⟨hA,hB,_⟩:=R.ends e he
   rw [alive_life hA.1 hA.2,alive_life hB.1 hB.2]
   unfold pthOf
   simp only
   omega
 constructor
 · rintro ⟨π,hπ,rfl,rfl,rfl,h1,h2⟩
   unfold pathsF at hπ
   rw [List.mem_flatMap] at hπ
   obtain ⟨e,he,hπ⟩:=hπ
   rw [List.mem_flatMap] at hπ
   obtain ⟨l,hl,hπ⟩:=hπ
   unfold pthsL at hπ
   split at hπ
   · cases hπ
   · split at hπ
     · rename_i hp
       subst hp
       rcases List.mem_cons.1 hπ with rfl | hπ
       · obtain ⟨k1,k2,k3⟩:=(one he).1 ⟨h1,h2⟩
         exact ⟨(e.1,e.2.1,l.2.2.2),(mem_ways ((mem_arcs h0).2 ⟨e,he,l,hl,k1.1,k1.2,k2,k3,rfl⟩)).1,rfl,rfl,rfl⟩
       · rw [List.mem_singleton] at hπ
         subst hπ
         obtain ⟨k1,k2,k3⟩:=(one he).1 ⟨h1,h2⟩
         exact ⟨(e.2.1,e.1,l.2.2.2),(mem_ways (a:=(e.1,e.2.1,l.2.2.2)) ((mem_arcs h0).2 ⟨e,he,l,hl,k1.1,k1.2,k2,k3,rfl⟩)).2 (by decide),rfl,rfl,rfl⟩
     · rw [List.mem_singleton] at hπ
       subst hπ
       obtain ⟨k1,k2,k3⟩:=(one he).1 ⟨h1,h2⟩
       exact ⟨(e.1,e.2.1,l.2.2.2),(mem_ways ((mem_arcs h0).2 ⟨e,he,l,hl,k1.1,k1.2,k2,k3,rfl⟩)).1,rfl,rfl,rfl⟩
 · rintro ⟨α,hα,rfl,rfl,rfl⟩
   have put:∀{e:Ed},e∈g.edges -> ∀{l:Lg},l∈e.2.2 -> ∀{π:Pt},π∈pthsL g p e l -> π∈pathsF g p:=fun he _ hl _ hπ=>by
     unfold pathsF
     rw [List.mem_flatMap]
     exact ⟨_,he,List.mem_flatMap.2 ⟨_,hl,hπ⟩⟩
   have main:∀{β:Ac},β∈arcsL t g.lives g.edges -> ∃e∈g.edges,∃l∈e.2.2,β=(e.1,e.2.1,l.2.2.2) /\ (pthOf g p e l).2.2.1 <= t /\ t<(pthOf g p e l).2.2.2.1:=by
     intro β hβ
     obtain ⟨e,he,l,hl,k1,k2,k3,k4,rfl⟩:=(mem_arcs h0).1 hβ
     exact ⟨e,he,l,hl,rfl,(one he).2 ⟨⟨k1,k2⟩,k3,k4⟩⟩
   unfold ways at hα
   split at hα
   · rename_i hp
     have hp:p=3:=by simpa using hp
     obtain ⟨β,hβ,hα⟩:=mem_both.1 hα
     obtain ⟨e,he,l,hl,rfl,k1,k2⟩:=main hβ
     rcases hα with rfl | rfl
     · exact ⟨pthOf g p e l,put he hl (by unfold pthsL;rw [if_neg (by omega),if_pos hp];simp),rfl,rfl,rfl,k1,k2⟩
     · exact ⟨((pthOf g p e l).2.1,(pthOf g p e l).1,(pthOf g p e l).2.2),put he hl (by unfold pthsL;rw [if_neg (by omega),if_pos hp];simp),rfl,rfl,(priceOf_even p (e.1,e.2.1,l.2.2.2)).symm,k1,k2⟩
   · rename_i hp
     have hp:¬p=3:=by simpa using hp
     obtain ⟨e,he,l,hl,rfl,k1,k2⟩:=main hα
     exact ⟨pthOf g p e l,put he hl (by unfold pthsL;rw [if_neg (by omega),if_neg hp];simp),rfl,rfl,rfl,k1,k2⟩
structure Runs (n:Nat) (W:List Ac) (p:Ac -> Int) (x:Nat -> List Int):Prop where
 step:∀r,RndIs W p (x r) (x (r+1))
 len:∀r,(x r).length=n
 en:EndsIn n W
 pos:∀a∈W,0 <= p a /\ p a <= 1000
theorem Runs.down {n:Nat} {W:List Ac} {p:Ac -> Int} {x:Nat -> List Int} (h:Runs n W p x) {v:Nat} (hv:v<n):∀(d r:Nat),(x (r+d)).getD v 0 <= (x r).getD v 0
 | 0,r=>Int.le_refl _
 | d+1,r=>by
   have h1:=h.down hv d r
   have h2:=(h.step (r+d)).le v (by rw [h.len];exact hv)
   rw [show r+(d+1)=r+d+1 by omega]
   omega
theorem Runs.chain {n:Nat} {W:List Ac} {p:Ac -> Int} {x:Nat -> List Int} (h:Runs n W p x):∀(r v:Nat),v<n -> (x (r+1)).getD v 0<(x r).getD v 0 ->
   ∃L:List Nat,L.length=r+1 /\ L.Nodup /\ (∀u∈L,u<n) /\ v∉L /\ ∀u∈L,∃j,j <= r /\ (x j).getD u 0 <= (x (r+1)).getD v 0:=by
 intro r
 induction r with
 | zero=>
   intro v hv hlt
   rcases (h.step 0).from_ v (by rw [h.len];exact hv) with e | ⟨a,ha,e1,e2⟩
   · omega
   · have en:=h.en a ha
     have hp:=h.pos a ha
     refine ⟨[a.1.toNat],rfl,by simp,fun u hu=> ?_,fun hm=> ?_,fun u hu=> ?_⟩
     · rw [List.mem_singleton] at hu;omega
     · rw [List.mem_singleton] at hm
       rw [hm] at hlt e2
       omega
     · rw [List.mem_singleton] at hu
       exact ⟨0,Nat.le_refl _,by rw [hu];omega⟩
 | succ r ih=>
   intro v hv hlt
   rcases (h.step (r+1)).from_ v (by rw [h.len];exact hv) with e | ⟨a,ha,e1,e2⟩
   · omega
   · have en:=h.en a ha
     have hp:=h.pos a ha
     have hu:a.1.toNat<n:=by omega
     have himp:(x (r+1)).getD a.1.toNat 0<(x r).getD a.1.toNat 0:=by
       have h1:=(h.step r).le a.1.toNat (by rw [h.len];exact hu)
       have h2:=(h.step r).tell a ha
       rw [e1] at h2
       omega
     obtain ⟨L,k1,k2,k3,k4,k5⟩:=ih a.1.toNat hu himp
     have low:∀u∈a.1.toNat::L,∃j,j <= r+1 /\ (x j).getD u 0 <= (x (r+1+1)).getD v 0:=by
       intro u hu
       rcases List.mem_cons.1 hu with rfl | hu
       · exact ⟨r+1,Nat.le_refl _,by omega⟩
       · obtain ⟨j,j1,j2⟩:=k5 u hu
         exact ⟨j,by omega,by omega⟩
     refine ⟨a.1.toNat::L,by simp [k1],List.nodup_cons.2 ⟨k4,k2⟩,fun u hu=> ?_,fun hm=> ?_,low⟩
     · rcases List.mem_cons.1 hu with rfl | hu
       · omega
       · exact k3 u hu
     · obtain ⟨j,j1,j2⟩:=low v hm
       have:=h.down hv (r+1-j) j
       rw [show j+(r+1-j)=r+1 by omega] at this
       omega
theorem nodup_lt:∀{n:Nat} {L:List Nat},L.Nodup -> (∀u∈L,u<n) -> L.length <= n
 | 0,[],_,_=>Nat.le_refl _
 | 0,u::L,_,hl=>by have:=hl u (by simp);omega
 | n+1,L,h,hl=>by
   by_cases hm:n∈L
   · have h1:=nodup_lt (n:=n) (L:=L.erase n) (h.erase n) (fun u hu=>by
       have h2:=h.mem_erase_iff.1 hu
       have:=hl u h2.2
       omega)
     rw [List.length_erase_of_mem hm] at h1
     omega
   · have h1:=nodup_lt (n:=n) h (fun u hu=>by
       have:=hl u hu
       have:u≠n:=fun e=>hm (e▸hu)
       omega)
     omega
theorem Runs.few {n:Nat} {W:List Ac} {p:Ac -> Int} {x:Nat -> List Int} (h:Runs n W p x) {r v:Nat} (hv:v<n) (hlt:(x (r+1)).getD v 0<(x r).getD v 0):r+2 <= n:=by
 obtain ⟨L,k1,k2,k3,k4,_⟩:=h.chain r v hv hlt
 have:=nodup_lt (n:=n) (L:=v::L) (List.nodup_cons.2 ⟨k4,k2⟩) (fun u hu=>by
   rcases List.mem_cons.1 hu with rfl | hu
   · exact hv
   · exact k3 u hu)
 simp [k1] at this
 omega
theorem Runs.still {n:Nat} {W:List Ac} {p:Ac -> Int} {x:Nat -> List Int} (h:Runs n W p x) {r:Nat} (hr:n <= r+1):x (r+1)=x r:=by
 refine news_none (h.step r) (fun v hv=> ?_)
 unfold newsOf
 split
 · rename_i hlt
   have:=h.few (by rw [<- h.len r];exact hv) hlt
   omega
 · rfl
theorem Runs.stays {n:Nat} {W:List Ac} {p:Ac -> Int} {x:Nat -> List Int} (h:Runs n W p x) {k:Nat} (hk:x (k+1)=x k):∀d,x (k+d)=x k
 | 0=>rfl
 | d+1=>by
   have h1:=h.stays hk d
   have h2:=h.step (k+d)
   rw [h1] at h2
   have h3:=h.step k
   rw [show k+(d+1)=k+d+1 by omega,rndIs_unique h2 h3,hk]
theorem Runs.small {n:Nat} {W:List Ac} {p:Ac -> Int} {x:Nat -> List Int} (h:Runs n W p x) {B:Int} (h0:∀v,v<n -> (x 0).getD v 0<1099511627776 -> (x 0).getD v 0 <= B):
   ∀(r v:Nat),v<n -> (x r).getD v 0<1099511627776 -> (x r).getD v 0 <= B+1000*(r:Int):=by
 intro r
 induction r with
 | zero=>intro v hv hl;have:=h0 v hv hl;simpa using this
 | succ r ih=>
   intro v hv hl
   rcases (h.step r).from_ v (by rw [h.len];exact hv) with e | ⟨a,ha,e1,e2⟩
   · rw [e] at hl ⊢
     have:=ih v hv hl
     omega
   · have en:=h.en a ha
     have hp:=h.pos a ha
     have:=ih a.1.toNat (by omega) (by omega)
     omega
def begG (p:Nat) (fr v:Int):Int:=if p=3 then v else fromF fr v
def XX (g:Gr) (p:Nat) (fr:Int) (r:Nat) (t:Int):List Int:=rnds (arcsL t g.lives g.edges) (priceOf p) (decide (p=3)) r (firstL (aliveL t g.lives) (begG p fr))
def WW (g:Gr) (p:Nat) (t:Int):List Ac:=ways (decide (p=3)) (arcsL t g.lives g.edges)
theorem XX_len (g:Gr) (p:Nat) (fr:Int) (r:Nat) (t:Int):(XX g p fr r t).length=g.lives.length:=by unfold XX;rw [rnds_length,firstL_length,aliveL_length]
theorem arcs_in {g:Gr} (h0:gChk g=0) (t:Int):EndsIn g.lives.length (arcsL t g.lives g.edges):=by
 intro a ha
 obtain ⟨e,he,l,hl,_,_,_,_,rfl⟩:=(mem_arcs h0).1 ha
 obtain ⟨h1,h2,_⟩:=(gChk_right h0).ends e he
 exact ⟨h1.1,h1.2,h2.1,h2.2⟩
theorem ways_of {back:Bool} {arcs:List Ac} {b:Ac} (h:b∈ways back arcs):∃a∈arcs,b=a \/ b=(a.2.1,a.1,a.2.2):=by
 unfold ways at h
 split at h
 · exact mem_both.1 h
 · exact ⟨b,h,.inl rfl⟩
theorem WW_in {g:Gr} (h0:gChk g=0) (p:Nat) (t:Int):EndsIn g.lives.length (WW g p t):=by
 intro b hb
 obtain ⟨a,ha,e | e⟩:=ways_of hb<;>subst e
 · exact arcs_in h0 t _ ha
 · obtain ⟨h1,h2,h3,h4⟩:=arcs_in h0 t _ ha
   exact ⟨h3,h4,h1,h2⟩
theorem price_pos {g:Gr} (h0:gChk g=0) {p:Nat} {t:Int}:∀a∈WW g p t,0 <= priceOf p a /\ priceOf p a <= 1000:=by
 intro b hb
 obtain ⟨a,ha,hab⟩:=ways_of hb
 obtain ⟨e,he,l,hl,_,_,_,_,rfl⟩:=(mem_arcs h0).1 ha
 have hf:=(fitB_iff _ _).1 ((gChk_right h0).legs e he l hl)
 have hc:b.2.2=l.2.2.2:=by rcases hab with e | e<;>subst e<;>rfl
 unfold priceOf
 rw [hc]
 split
 · omega
 · split<;>omega
theorem runsX {g:Gr} (h0:gChk g=0) (p:Nat) (fr t:Int):Runs g.lives.length (WW g p t) (priceOf p) (fun r=>XX g p fr r t):=by
 refine ⟨fun r=> ?_,fun r=>XX_len g p fr r t,WW_in h0 p t,price_pos h0⟩
 have:=rnd_is (arcs:=arcsL t g.lives g.edges) (p:=priceOf p) (back:=decide (p=3)) (x:=XX g p fr r t) (fun _=>priceOf_even p) (by rw [XX_len];exact arcs_in h0 t)
 exact this
def optI (z:Int):Option Int:=if z<1099511627776 then some z else none
def nwX (g:Gr) (p:Nat) (fr:Int) (r:Nat) (t:Int) (v:Nat):Option Int:=match r with
 | 0=>optI ((XX g p fr 0 t).getD v 0)
 | r+1=>newsOf (XX g p fr r t) (XX g p fr (r+1) t) v
theorem first_hi {g:Gr} {p:Nat} {fr t:Int} (hv12:g.lives.length <= 12):∀v,v<g.lives.length -> (0 <= (XX g p fr 0 t).getD v 0 /\ (XX g p fr 0 t).getD v 0 <= 1099511627776) /\ ((XX g p fr 0 t).getD v 0<1099511627776 -> (XX g p fr 0 t).getD v 0 <= 12):=by
 intro v hv
 have e:(XX g p fr 0 t).getD v 0=if (aliveL t g.lives).getD v false=true then begG p fr v else 1099511627776:=firstL_getD _ _ v (by rw [aliveL_length];exact hv)
 rw [e]
 unfold begG fromF
 split
 · split
   · omega
   · split<;>omega
 · omega
theorem newAt {g:Gr} (h0:gChk g=0) (p:Nat) (fr:Int) (r:Nat) (t:Int):NewAt (WW g p t) (priceOf p) (XX g p fr r t) (nwX g p fr r t):=by
 have R:=runsX h0 p fr t
 cases r with
 | zero=>exact news_first _ (fun a ha=>(R.pos a ha).1) (by rw [R.len 0];exact R.en) (fun v hv=>((first_hi (gChk_right h0).lvs) v (by rw [<- R.len 0];exact hv)).1.2) (fun v _=>rfl)
 | succ r=>exact news_next (by rw [R.len r];exact R.en) (R.step r)
theorem nwX_small {g:Gr} {p:Nat} {fr:Int} {r:Nat} {t:Int} {v:Nat} {z:Int} (h0:gChk g=0) (hv:v<g.lives.length) (h:nwX g p fr r t v=some z):z=(XX g p fr r t).getD v 0 /\ z<1099511627776:=by
 have R:=runsX h0 p fr t
 have h1:=(newAt h0 p fr r t).val v z (by rw [R.len r];exact hv) h
 refine ⟨h1,?_⟩
 cases r with
 | zero=>
   have h:optI ((XX g p fr 0 t).getD v 0)=some z:=h
   unfold optI at h
   split at h
   · cases h;assumption
   · cases h
 | succ r=>
   have h:newsOf (XX g p fr r t) (XX g p fr (r+1) t) v=some z:=h
   unfold newsOf at h
   split at h
   · rename_i hl
     have h2:=R.down hv r 0
     have h3:=((first_hi (p:=p) (fr:=fr) (t:=t) (gChk_right h0).lvs) v hv).1.2
     simp only [Nat.zero_add] at h2
     rw [h1]
     omega
   · cases h
def TellIs (n:Nat) (T:Nat -> List (Int×Int×Int)) (f:Int -> Nat -> Option Int):Prop:=∀v,v<n -> MCan (T v) /\ ∀t,tel (T v) t=f t v
abbrev ToldIs (g:Gr) (p:Nat) (fr:Int) (r:Nat) (T:Nat -> List (Int×Int×Int)):Prop:=TellIs g.lives.length T fun t v=>optI ((XX g p fr r t).getD v 0)
abbrev NewsIs (g:Gr) (p:Nat) (fr:Int) (r:Nat) (N:Nat -> List (Int×Int×Int)):Prop:=TellIs g.lives.length N fun t v=>nwX g p fr r t v
structure HeardIs (g:Gr) (p:Nat) (fr:Int) (r:Nat) (H:Nat -> List (Int×Int×Int)):Prop where
 can:∀v,v<g.lives.length -> MCan (H v)
 most:∀π∈pathsF g p,∀t,π.2.2.1 <= t -> t<π.2.2.2.1 -> ∀z,nwX g p fr r t π.1.toNat=some z -> ∃h,tel (H π.2.1.toNat) t=some h /\ h <= z+π.2.2.2.2
 from_:∀v,v<g.lives.length -> ∀t h,tel (H v) t=some h -> ∃π∈pathsF g p,π.2.1.toNat=v /\ π.2.2.1 <= t /\ t<π.2.2.2.1 /\ ∃z,nwX g p fr r t π.1.toNat=some z /\ h=z+π.2.2.2.2
theorem HeardIs.at {g:Gr} (h0:gChk g=0) {p:Nat} {fr:Int} {r:Nat} {H:Nat -> List (Int×Int×Int)} (h:HeardIs g p fr r H) (t:Int):HeardAt (WW g p t) (priceOf p) (nwX g p fr r t) (fun v=>if v<g.lives.length then tel (H v) t else none):=by
 refine ⟨fun a ha z hz=> ?_,fun v q hq=> ?_⟩
 · obtain ⟨π,hπ,e1,e2,e3,e4,e5⟩:=(paths_iff h0 (p:=p) (t:=t) (a:=a.1) (b:=a.2.1) (m:=priceOf p a)).2 ⟨a,ha,rfl,rfl,rfl⟩
   have en:=WW_in h0 p t a ha
   obtain ⟨q,k1,k2⟩:=h.most π hπ t e4 e5 z (by rw [e1];exact hz)
   rw [e2] at k1
   rw [e3] at k2
   exact ⟨q,by rw [if_pos (by omega)];exact k1,k2⟩
 · split at hq
   · rename_i hv
     obtain ⟨π,hπ,e1,e2,e3,z,e4,e5⟩:=h.from_ v hv t q hq
     obtain ⟨a,ha,k1,k2,k3⟩:=(paths_iff h0 (p:=p) (t:=t) (a:=π.1) (b:=π.2.1) (m:=π.2.2.2.2)).1 ⟨π,hπ,rfl,rfl,rfl,e2,e3⟩
     exact ⟨a,ha,by rw [k2];exact e1,z,by rw [k1];exact e4,by rw [k3];exact e5⟩
   · cases hq
def lessF (told heard:Option Int):Option Int:=match heard with
 | none=>none
 | some h=>match told with
   | none=>some h
   | some z=>if h<z then some h else none
def takeF (told news:Option Int):Option Int:=match told,news with
 | none,b=>b
 | some z,none=>some z
 | some z,some h=>some (min z h)
theorem round_next {g:Gr} (h0:gChk g=0) {p:Nat} {fr:Int} {r:Nat} {T N' H:Nat -> List (Int×Int×Int)} (hr:r <= 1000000) (hT:ToldIs g p fr r T) (hH:HeardIs g p fr r H) (hc:∀v,v<g.lives.length -> MCan (N' v)) (hN:∀v,v<g.lives.length -> ∀t,tel (N' v) t=lessF (tel (T v) t) (tel (H v) t)):NewsIs g p fr (r+1) N':=by
 intro v hv
 refine ⟨hc v hv,fun t=> ?_⟩
 have R:=runsX h0 p fr t
 have hA:=hH.at h0 t
 have hy:=news_round (y:=XX g p fr (r+1) t) (by rw [R.len r];exact R.en) (newAt h0 p fr r t) hA (R.step r) v (by rw [R.len r];exact hv)
 simp only [if_pos hv] at hy
 rw [hN v hv t,(hT v hv).2 t]
 show _=newsOf (XX g p fr r t) (XX g p fr (r+1) t) v
 have hi:(XX g p fr r t).getD v 0 <= 1099511627776:=by
   have h2:=R.down hv r 0
   have h3:=((first_hi (p:=p) (fr:=fr) (t:=t) (gChk_right h0).lvs) v hv).1.2
   simp only [Nat.zero_add] at h2
   omega
 unfold newsOf lessF optI
 cases hh:tel (H v) t with
 | none=>
   rw [hh] at hy
   simp only at hy ⊢
   rw [if_neg (by omega)]
 | some q=>
   rw [hh] at hy
   simp only at hy ⊢
   obtain ⟨a,ha,e1,z,e2,e3⟩:=hA.from_ v q (by simp only [if_pos hv];exact hh)
   have en:=WW_in h0 p t a ha
   obtain ⟨z1,z2⟩:=nwX_small h0 (by omega) e2
   have hsm:=R.small (B:=12) (fun u hu hl=>((first_hi (p:=p) (fr:=fr) (t:=t) (gChk_right h0).lvs) u hu).2 hl) r a.1.toNat (by omega) (by omega)
   have hpr:=R.pos a ha
   have hq:q<1099511627776:=by omega
   by_cases hx:(XX g p fr r t).getD v 0<1099511627776
   · rw [if_pos hx]
     simp only
     by_cases hl:q<(XX g p fr r t).getD v 0
     · rw [if_pos hl,if_pos (by omega)]
       congr 1;omega
     · rw [if_neg hl,if_neg (by omega)]
   · rw [if_neg hx]
     simp only
     rw [if_pos (by omega)]
     congr 1;omega
theorem told_next {g:Gr} (h0:gChk g=0) {p:Nat} {fr:Int} {r:Nat} {T T' N' :Nat -> List (Int×Int×Int)} (hT:ToldIs g p fr r T) (hN:NewsIs g p fr (r+1) N') (hc:∀v,v<g.lives.length -> MCan (T' v)) (hT' :∀v,v<g.lives.length -> ∀t,tel (T' v) t=takeF (tel (T v) t) (tel (N' v) t)):ToldIs g p fr (r+1) T':=by
 intro v hv
 refine ⟨hc v hv,fun t=> ?_⟩
 have R:=runsX h0 p fr t
 rw [hT' v hv t,(hT v hv).2 t,(hN v hv).2 t]
 show takeF (optI ((XX g p fr r t).getD v 0)) (newsOf (XX g p fr r t) (XX g p fr (r+1) t) v)=optI ((XX g p fr (r+1) t).getD v 0)
 have hle:=(R.step r).le v (by rw [R.len r];exact hv)
 have hi:(XX g p fr r t).getD v 0 <= 1099511627776:=by
   have h2:=R.down hv r 0
   have h3:=((first_hi (p:=p) (fr:=fr) (t:=t) (gChk_right h0).lvs) v hv).1.2
   simp only [Nat.zero_add] at h2
   omega
 unfold newsOf takeF optI
 by_cases hx:(XX g p fr r t).getD v 0<1099511627776
 · rw [if_pos hx]
   by_cases hl:(XX g p fr (r+1) t).getD v 0<(XX g p fr r t).getD v 0
   · rw [if_pos hl,if_pos (by omega)]
     show some (min _ _)=_
     congr 1;omega
   · rw [if_neg hl,if_pos (by omega)]
     show some _=some _
     congr 1;omega
 · rw [if_neg hx]
   by_cases hl:(XX g p fr (r+1) t).getD v 0<(XX g p fr r t).getD v 0
   · rw [if_pos hl,if_pos (by omega)]
   · rw [if_neg hl,if_neg (by omega)]
theorem news_empty {g:Gr} (h0:gChk g=0) {p:Nat} {fr:Int} {r:Nat} {N' :Nat -> List (Int×Int×Int)} (hN:NewsIs g p fr (r+1) N') (he:∀v,v<g.lives.length -> N' v=[]) (t:Int):XX g p fr (r+1) t=XX g p fr r t:=by
 refine news_none ((runsX h0 p fr t).step r) (fun v hv=> ?_)
 have hv' :v<g.lives.length:=by rw [<- XX_len g p fr r t];exact hv
 have h1:=(hN v hv').2 t
 rw [he v hv',tel_nil] at h1
 exact h1.symm
theorem news_few {g:Gr} (h0:gChk g=0) {p:Nat} {fr:Int} {r:Nat} {N' :Nat -> List (Int×Int×Int)} (hN:NewsIs g p fr (r+1) N') {v:Nat} (hv:v<g.lives.length) (he:N' v≠[]):r+2 <= g.lives.length:=by
 cases hm:N' v with
 | nil=>exact absurd hm he
 | cons q m=>
   have hc:=(hN v hv).1
   rw [hm] at hc
   have h1:=(hN v hv).2 q.1
   rw [hm,tel_cons,if_pos (by unfold inP;have:=hc.1;simp;omega)] at h1
   have h2:newsOf (XX g p fr r q.1) (XX g p fr (r+1) q.1) v=some q.2.2:=h1.symm
   unfold newsOf at h2
   split at h2
   · rename_i hl
     exact (runsX h0 p fr q.1).few hv hl
   · cases h2
def pt0:Pt:=(0,0,0,0,0)
def togF (M:Nat -> Nat -> List (Int×Int×Int)):Nat -> Nat -> Int -> Option Int
 | 0,_,_=>none
 | j+1,v,t=>mrg 1 (togF M j v t) (tel (M j v) t)
theorem mrg_none (how:Int) (x:Option Int):mrg how x none=x:=by cases x<;>rfl
def alongF (N:Nat -> List (Int×Int×Int)) (π:Pt) (t:Int):Option Int:=if π.2.2.1 <= t /\ t<π.2.2.2.1 then (tel (N π.1.toNat) t).map (·+π.2.2.2.2) else none
def sndF (N:Nat -> List (Int×Int×Int)) (wk W:Int) (ps:List Pt):Nat -> Nat -> Int -> Option Int
 | 0,_,_=>none
 | k+1,v,t=>if (ps.getD k pt0).1%W=wk /\ (ps.getD k pt0).2.1=(v:Int) then mrg 1 (sndF N wk W ps k v t) (alongF N (ps.getD k pt0) t) else sndF N wk W ps k v t
def GoodPt (n:Nat) (π:Pt):Prop:=(0 <= π.1 /\ π.1<n) /\ (0 <= π.2.1 /\ π.2.1<n) /\ (0 <= π.2.2.1 /\ π.2.2.1<π.2.2.2.1 /\ π.2.2.2.1 <= 100) /\ 0 <= π.2.2.2.2 /\ π.2.2.2.2 <= 1000
theorem mrg_from {a b:Option Int} {h:Int} (e:mrg 1 a b=some h):a=some h \/ b=some h:=by
 cases a with
 | none=>exact .inr e
 | some x=>
   cases b with
   | none=>exact .inl e
   | some y=>
     simp only [mrg,both,if_pos,Option.some.injEq] at e
     rcases Int.le_total x y with k | k
     · left;rw [Int.min_eq_left k] at e;rw [e]
     · right;rw [Int.min_eq_right k] at e;rw [e]
theorem mrg_left {a b:Option Int} {z:Int} (e:a=some z):∃h,mrg 1 a b=some h /\ h <= z:=by
 subst e
 cases b with
 | none=>exact ⟨z,rfl,Int.le_refl _⟩
 | some y=>exact ⟨min z y,by simp [mrg,both],by omega⟩
theorem mrg_right {a b:Option Int} {z:Int} (e:b=some z):∃h,mrg 1 a b=some h /\ h <= z:=by
 subst e
 cases a with
 | none=>exact ⟨z,rfl,Int.le_refl _⟩
 | some y=>exact ⟨min y z,by simp [mrg,both],by omega⟩
theorem mrg_lower {a b:Option Int} {z:Int} (e:∃h,a=some h /\ h <= z):∃h,mrg 1 a b=some h /\ h <= z:=by
 obtain ⟨x,e,hx⟩:=e
 obtain ⟨h,e2,h2⟩:=mrg_left (b:=b) e
 exact ⟨h,e2,by omega⟩
theorem snd_from (N:Nat -> List (Int×Int×Int)) (wk W:Int) (ps:List Pt) (v:Nat) (t h:Int):∀k,sndF N wk W ps k v t=some h -> ∃i,i<k /\ (ps.getD i pt0).1%W=wk /\ (ps.getD i pt0).2.1=(v:Int) /\ alongF N (ps.getD i pt0) t=some h
 | 0,e=>by cases e
 | k+1,e=>by
   rw [sndF] at e
   split at e
   · rename_i hc
     rcases mrg_from e with e | e
     · obtain ⟨i,h1,h2⟩:=snd_from N wk W ps v t h k e
       exact ⟨i,by omega,h2⟩
     · exact ⟨k,by omega,hc.1,hc.2,e⟩
   · obtain ⟨i,h1,h2⟩:=snd_from N wk W ps v t h k e
     exact ⟨i,by omega,h2⟩
theorem snd_most (N:Nat -> List (Int×Int×Int)) (wk W:Int) (ps:List Pt) (v:Nat) (t z:Int) {i:Nat} (h1:(ps.getD i pt0).1%W=wk) (h2:(ps.getD i pt0).2.1=(v:Int)) (h3:alongF N (ps.getD i pt0) t=some z):∀k,i<k -> ∃h,sndF N wk W ps k v t=some h /\ h <= z
 | 0,h=>by omega
 | k+1,h=>by
   rw [sndF]
   by_cases e:i=k
   · subst e
     rw [if_pos ⟨h1,h2⟩]
     exact mrg_right h3
   · have ih:=snd_most N wk W ps v t z h1 h2 h3 k (by omega)
     split
     · exact mrg_lower ih
     · exact ih
theorem tog_from (M:Nat -> Nat -> List (Int×Int×Int)) (v:Nat) (t h:Int):∀j,togF M j v t=some h -> ∃i,i<j /\ tel (M i v) t=some h
 | 0,e=>by cases e
 | j+1,e=>by
   rw [togF] at e
   rcases mrg_from e with e | e
   · obtain ⟨i,h1,h2⟩:=tog_from M v t h j e
     exact ⟨i,by omega,h2⟩
   · exact ⟨j,by omega,e⟩
theorem tog_most (M:Nat -> Nat -> List (Int×Int×Int)) (v:Nat) (t z:Int) {i:Nat} (h1:∃h,tel (M i v) t=some h /\ h <= z):∀j,i<j -> ∃h,togF M j v t=some h /\ h <= z
 | 0,h=>by omega
 | j+1,h=>by
   rw [togF]
   by_cases e:i=j
   · subst e
     obtain ⟨x,e1,h2⟩:=h1
     obtain ⟨y,e2,h3⟩:=mrg_right (a:=togF M i v t) e1
     exact ⟨y,e2,by omega⟩
   · exact mrg_lower (tog_most M v t z h1 j (by omega))
theorem paths_good {g:Gr} (h0:gChk g=0) {p:Nat} {π:Pt} (h:π∈pathsF g p):GoodPt g.lives.length π:=by
 have R:=gChk_right h0
 unfold pathsF at h
 rw [List.mem_flatMap] at h
 obtain ⟨e,he,h⟩:=h
 rw [List.mem_flatMap] at h
 obtain ⟨l,hl,h⟩:=h
 obtain ⟨hA,hB,_⟩:=R.ends e he
 have hf:=(fitB_iff _ _).1 (R.legs e he l hl)
 have hor:=R.hor
 have lA:lifeOf g e.1∈g.lives:=by
   unfold lifeOf
   rw [List.getD_eq_getElem?_getD,List.getElem?_eq_getElem (show e.1.toNat<g.lives.length by omega)]
   exact List.getElem_mem _
 have lB:lifeOf g e.2.1∈g.lives:=by
   unfold lifeOf
   rw [List.getD_eq_getElem?_getD,List.getElem?_eq_getElem (show e.2.1.toNat<g.lives.length by omega)]
   exact List.getElem_mem _
 have fA:=R.life _ lA
 have fB:=R.life _ lB
 have hp:0 <= priceOf p (e.1,e.2.1,l.2.2.2) /\ priceOf p (e.1,e.2.1,l.2.2.2) <= 1000:=by
   unfold priceOf
   split
   · omega
   · split
     · simp only;omega
     · omega
 unfold pthsL at h
 split at h
 · cases h
 · rename_i hlt
   have key:GoodPt g.lives.length (pthOf g p e l) /\ GoodPt g.lives.length ((pthOf g p e l).2.1,(pthOf g p e l).1,(pthOf g p e l).2.2):=by
     unfold pthOf at hlt ⊢
     unfold GoodPt
     simp only at hlt ⊢
     refine ⟨⟨hA,hB,⟨by omega,by omega,by omega⟩,hp⟩,hB,hA,⟨by omega,by omega,by omega⟩,hp⟩
   split at h
   · simp only [List.mem_cons,List.not_mem_nil,or_false] at h
     rcases h with rfl | rfl
     · exact key.1
     · exact key.2
   · rw [List.mem_singleton] at h
     subst h
     exact key.1
theorem heard_is {g:Gr} (h0:gChk g=0) {p:Nat} {fr:Int} {r:Nat} {N H:Nat -> List (Int×Int×Int)} {W:Nat} {M:Nat -> Nat -> List (Int×Int×Int)} (hW:1 <= W) (hN:NewsIs g p fr r N)
   (hM:∀j,j<W -> ∀v,v<g.lives.length -> ∀t,tel (M j v) t=sndF N (j:Int) (W:Int) (pathsF g p) (pathsF g p).length v t) (hc:∀v,v<g.lives.length -> MCan (H v)) (hH:∀v,v<g.lives.length -> ∀t,tel (H v) t=togF M W v t):HeardIs g p fr r H:=by
 have al:∀π∈pathsF g p,∀t,alongF N π t=if π.2.2.1 <= t /\ t<π.2.2.2.1 then (nwX g p fr r t π.1.toNat).map (·+π.2.2.2.2) else none:=by
   intro π hπ t
   have hg:=paths_good h0 hπ
   unfold alongF
   rw [(hN π.1.toNat (by have:=hg.1;omega)).2 t]
 refine ⟨hc,fun π hπ t h1 h2 z hz=> ?_,fun v hv t h e=> ?_⟩
 · have hg:=paths_good h0 hπ
   have ha:alongF N π t=some (z+π.2.2.2.2):=by rw [al π hπ t,if_pos ⟨h1,h2⟩,hz];rfl
   obtain ⟨i,hi,rfl⟩:=List.getElem_of_mem hπ
   have hgd:(pathsF g p).getD i pt0=(pathsF g p)[i]:=by rw [List.getD_eq_getElem?_getD,List.getElem?_eq_getElem hi];rfl
   have hb:=hg.2.1
   have ha0:=hg.1
   have hj:((pathsF g p)[i].1%(W:Int)).toNat<W:=by
     have h1:=Int.emod_nonneg (pathsF g p)[i].1 (show (W:Int)≠0 by omega)
     have h2:=Int.emod_lt_of_pos (pathsF g p)[i].1 (show (0:Int)<W by omega)
     omega
   have hj2:((((pathsF g p)[i].1%(W:Int)).toNat:Nat):Int)=(pathsF g p)[i].1%(W:Int):=by
     have h1:=Int.emod_nonneg (pathsF g p)[i].1 (show (W:Int)≠0 by omega)
     omega
   have hv:(pathsF g p)[i].2.1.toNat<g.lives.length:=by omega
   rw [hH _ hv t]
   refine tog_most M _ t _ (i:=((pathsF g p)[i].1%(W:Int)).toNat) ?_ W hj
   rw [hM _ hj _ hv t,hj2]
   exact snd_most N _ _ _ _ t _ (i:=i) (by rw [hgd]) (by rw [hgd];omega) (by rw [hgd];exact ha) _ hi
 · rw [hH v hv t] at e
   obtain ⟨j,hj,e⟩:=tog_from M v t h W e
   rw [hM j hj v hv t] at e
   obtain ⟨i,hi,h1,h2,h3⟩:=snd_from N _ _ _ v t h _ e
   have hgd:(pathsF g p).getD i pt0=(pathsF g p)[i]:=by rw [List.getD_eq_getElem?_getD,List.getElem?_eq_getElem hi];rfl
   rw [hgd] at h2 h3
   have hπ:(pathsF g p)[i]∈pathsF g p:=List.getElem_mem hi
   rw [al _ hπ t] at h3
   split at h3
   · rename_i hc
     cases hz:nwX g p fr r t (pathsF g p)[i].1.toNat with
     | none=>rw [hz] at h3;cases h3
     | some z=>
       rw [hz] at h3
       simp only [Option.map_some,Option.some.injEq] at h3
       exact ⟨_,hπ,by rw [h2];simp,hc.1,hc.2,z,hz,h3.symm⟩
   · cases h3
def ptV (π:Pt):Value:= .agg #[.int .i64 π.1,.int .i64 π.2.1,.int .i64 π.2.2.1,.int .i64 π.2.2.2.1,.int .i64 π.2.2.2.2]
theorem ivAt_oneB (w:World) (B:Nat) (t:TypeId) (p:Int×Int) (hB:B=w.heap.size):IvAt (w.alloc (.cells #[.int .i64 p.1,.int .i64 p.2] t)) (some ⟨B,0,none⟩) [p]:=by
 subst hB
 refine .inr ⟨w.heap.size,0,rfl,by simp,fun j hj=> ?_⟩
 have:j=0:=by simpa using hj
 subst this
 exact ⟨by simp,by simp⟩
theorem add_step {r0 m:List P3} {k:Nat} {d:Int} (hk:k<r0.length) (hm:m=addM (r0.take k) d++r0.drop k):∃h:k<m.length,m[k]=r0[k] /\ m.set k (r0[k].1,r0[k].2.1,r0[k].2.2+d)=addM (r0.take (k+1)) d++r0.drop (k+1):=by
 have hl:(addM (r0.take k) d).length=k:=by unfold addM;rw [List.length_map,List.length_take];omega
 have hd:r0.drop k=r0[k]::r0.drop (k+1):=(List.drop_eq_getElem_cons hk)
 have hm2:m.length=r0.length:=by rw [hm,List.length_append,hl,List.length_drop];omega
 refine ⟨by omega,?_,?_⟩
 · simp only [hm]
   rw [List.getElem_append_right (by omega)]
   simp [hl]
 · rw [hm,List.set_append_right _ _ (by omega),hl,Nat.sub_self,hd,List.set_cons_zero]
   have:r0.take (k+1)=r0.take k++[r0[k]]:=by rw [List.take_add_one];simp [hk]
   rw [this]
   unfold addM
   rw [List.map_append,List.append_assoc]
   rfl
set_option maxRecDepth 100000 in
set_option maxHeartbeats 4000000 in
theorem bsAlong_any (π:Pt) (ao:Option Addr) (cap:Nat) (m:List P3) (B:Int) (w:World) (hA:PcAt w ao m) (hS:Sm B m) (hB:B <= 500000) (hf:0 <= π.2.2.1 /\ π.2.2.1<π.2.2.2.1 /\ π.2.2.2.1 <= 100) (hd:0 <= π.2.2.2.2 /\ π.2.2.2.2 <= 1000):
   Calls Seq.prog 103 #[ptV π,.slice ao m.length cap] w fun r w' =>∃v k,r= .returned v /\ Sm (B+π.2.2.2.2) k /\ (∀t,tel k t=if π.2.2.1 <= t /\ t<π.2.2.2.1 then (tel m t).map (·+π.2.2.2.2) else none) /\ w'.ownsRow w.heap.size 54 3 v k.length (enc3 k) /\ Below w.heap.size w w':=by
 obtain ⟨pa,pb,f,t,d⟩:=π
 simp only at hf hd
 unfold ptV
 simp only
 obtain ⟨o1,ho1⟩:∃o,o=Obj.cells #[.int .i64 pa,.int .i64 pb,.int .i64 f,.int .i64 t,.int .i64 d] 130:=⟨_,rfl⟩
 have hK:=Keep_any ao (some ⟨(w.alloc o1).heap.size,0,none⟩) cap 1 m [(f,t)] ((w.alloc o1).alloc (.cells #[.int .i64 f,.int .i64 t] 95)) (hA.below (ptw (pal w _) (pal _ _))) (ivAt_oneB _ _ _ (f,t) rfl)
 have hK2:Calls Seq.prog 124 #[.slice ao m.length cap,.slice (some ⟨(w.alloc o1).heap.size,0,none⟩) 1 1] ((w.alloc o1).alloc (.cells #[.int .i64 f,.int .i64 t] 95)) fun e w' =>∃r v,e= .returned (.tuple #[v,.int .i64 0]) /\ Sm B r /\ (∀s,tel r s=if f <= s /\ s<t then tel m s else none) /\ w'.ownsRow (w.heap.size+2) 54 3 v r.length (enc3 r) /\ Below (w.heap.size+1) (w.alloc o1) w':=by
   refine hK.mono ?_
   rintro e w' ⟨n,r,hO,v,rfl,ho,hb⟩
   obtain ⟨rfl,h2,h3⟩:=sm_keep hS hf (by omega) hO
   have e2:((w.alloc o1).alloc (.cells #[.int .i64 f,.int .i64 t] 95)).heap.size=w.heap.size+2:=by simp
   refine ⟨r,v,rfl,h2,h3,by rw [<- e2];exact ho,?_⟩
   have:=ptw (pal (w.alloc o1) (.cells #[.int .i64 f,.int .i64 t] 95)) hb
   have e1:(w.alloc o1).heap.size=w.heap.size+1:=by simp
   rw [e1] at this
   exact this
 have HB0:=hideg (pal w o1)
 clear hK hS hA
 generalize m.length=ml at*
 subst ho1
 have hsz1:(w.alloc (Obj.cells #[.int .i64 pa,.int .i64 pb,.int .i64 f,.int .i64 t,.int .i64 d] 130)).heap.size=w.heap.size+1:=by simp
 rw [hsz1] at hK2
 clear hsz1
 go_enter Seq.func103,Tryz.ntmps103
 go_wp2_with fail
 refine hK2.mono ?_
 rintro e w3 ⟨r0,v0,rfl,hS0,hT0,ho,hb⟩
 have hb3:=hideg hb
 have HS0:=hideg hS0
 have HT0:=hideg hT0
 obtain ⟨a0,c0,rfl,hp0⟩:=pcAt_of_owns ho
 have hl0:=hS0.len (by omega)
 clear hK2 hb hp0 hT0
 obtain ⟨n,hn⟩:∃n,n=r0.length:=⟨_,rfl⟩
 rw [<- hn] at ho hl0 ⊢
 have HN:=hideg hn
 have hvl:Hid (∀q∈r0,0 <= q.2.2 /\ q.2.2 <= B):=hS0.vals
 have HO:=hideg ho
 clear hn hS0 ho
 go_wp2
 go_loopw [21] (fun i wr=>∃(k:Nat) (x:List P3),k <= n /\ i= .int .i64 k /\ x=addM (r0.take k) d++r0.drop k /\ wr.ownsRow (w.heap.size+2) 54 3 (.slice a0 n c0) n (enc3 x) /\ Below (w.heap.size+1) (w.alloc (Obj.cells #[.int .i64 pa,.int .i64 pb,.int .i64 f,.int .i64 t,.int .i64 d] 130)) wr) (fun i _=>n-(intOf i).toNat)
 case atStart=>exact ⟨0,r0,Nat.zero_le _,rfl,by simp [addM],HO.out,hb3.out⟩
 case round=>
   clear HO hb3
   obtain ⟨k,x,hk,rfl,hx,hown,hb⟩:=hrel
   by_cases hlt:k<n
   · have hlt2:k<r0.length:=by rw [<- HN.out];exact hlt
     obtain ⟨hk2,hxk,hset⟩:=add_step hlt2 hx
     obtain ⟨b,c,e⟩:=own_slice hown (by omega)
     simp only [Value.slice.injEq] at e
     obtain ⟨rfl,_,rfl⟩:=e
     have hq:=hvl.out _ (List.getElem_mem hlt2)
     have hE:=enc3_set2 x k (r0[k].2.2+d) hk2
     rw [hxk,hset] at hE
     have hblt:=(hown.lt b rfl)
     have zc:wr.cell? ⟨b,k*3+2,none⟩=some (.int .i64 r0[k].2.2):=by
       rw [hown.cellAt (k*3+2) (by omega)]
       have:=(flat3_getD x k hk2).2.2
       unfold enc3
       rw [List.getElem?_map,this,List.getD_eq_getElem?_getD,List.getElem?_eq_getElem hk2,Option.getD_some,hxk]
       rfl
     have q4:wr.cell? ⟨w.heap.size,4,none⟩=some (.int .i64 d):=by rw [hb.cell (p:=⟨w.heap.size,4,none⟩) (by simp)];simp
     have hw:IntKind.i64.wrap (r0[k].2.2+d)=r0[k].2.2+d:=wrap_small _ (by omega) (by omega)
     have HE:=hideg hE
     have HX:=hideg hx
     have hsz:=hb.size
     simp only [World.size_alloc] at hsz
     clear hE hxk hset hx hq
     generalize r0[k].2.2=z at*
     clear hlt2 hk2
     have hne2:Nonempty (HeldIn wr):=⟨⟨_,Below.refl _ _⟩⟩
     have f0:∀s:HeldIn wr,s.w.cell? ⟨b,k*3+2,none⟩=some (.int .i64 z):=fun s=>by rw [s.h.cell (p:=⟨b,k*3+2,none⟩) hblt.2];exact zc
     have f1:∀s:HeldIn wr,s.w.cell? ⟨w.heap.size,4,none⟩=some (.int .i64 d):=fun s=>by rw [s.h.cell (p:=⟨w.heap.size,4,none⟩) (by show w.heap.size<_;omega)];exact q4
     have HQ:Hid (∀s:HeldIn wr,s.w.ownsRow (w.heap.size+2) 54 3 (.slice (some ⟨b,0,none⟩) n c0) n (enc3 x) /\ Below (w.heap.size+1) (w.alloc (Obj.cells #[.int .i64 pa,.int .i64 pb,.int .i64 f,.int .i64 t,.int .i64 d] 130)) s.w):=fun s=>⟨ownsRow_below hown s.h,hb.trans (s.h.mono (by omega))⟩
     have hki:(k:Int)<(n:Int):=by omega
     clear hown hb zc q4
     go_wp2_with fail
     refine wp_region_held_back _ (Below.refl _ _) (by kernel_rfl) (by simp) (by kernel_rfl) (by kernel_rfl) (by kernel_rfl) ?_
     simp only [List.pop_toArray,List.dropLast,List.back!_toArray,List.getLast!]
     repeat (go_big_quiet_step (fail))
     refine wpQuiet_nil ?_
     rintro _ ⟨s,rfl⟩
     refine back_last (fun K hK=> ?_)
     have k0:=f0 s
     obtain ⟨ho4,hb4⟩:=HQ.out s
     have fz:=World.ownsRow.frozenAt ho4 (k*3+2)
     have hgl4:=(World.ownsRow.lt ho4 b rfl)
     clear f0 f1 hne2 HQ
     generalize s.w=w4 at*
     clear s
     go_simp
     refine hK.out _ _ ?_
     clear hK K
     have ho5:=(ho4.stored (k*3+2) (.int .i64 (z+d))).1
     rw [HE.out] at ho5
     have HO5:=hideg ho5
     have HB5:=hideg (hb4.setCell (p:=⟨b,k*3+2,none⟩) (by show w.heap.size+1 <= b;omega) (.int .i64 (z+d)))
     clear ho5 ho4 hb4
     go_wp2
     go_roundw
     case rel=>exact ⟨k+1,_,by omega,by go_num,rfl,HO5.out,HB5.out⟩
     case measure=>simp [intOf];omega
   · have hkn:k=n:=by omega
     have e1:x=addM r0 d:=by
       rw [hx,hkn,HN.out,List.take_length,List.drop_length,List.append_nil]
     subst hkn
     have HR:Hid (∃v k',Value.slice a0 k c0=v /\ Sm (B+d) k' /\ (∀t',tel k' t' =if f <= t' /\ t' <t then (tel m t').map (·+d) else none) /\ wr.ownsRow w.heap.size 54 3 v k'.length (enc3 k')):=by
       refine ⟨_,addM r0 d,rfl,sm_add HS0.out hd.1,fun t' => ?_,?_⟩
       · rw [addM_tel,HT0.out t']
         split<;>rfl
       · rw [<- e1]
         have:x.length=k:=by rw [e1];unfold addM;rw [List.length_map,<- HN.out]
         rw [this]
         exact owns_base2 hown (by omega)
     have HBF:Hid (Below w.heap.size w wr):=HB0.out.trans (hb.mono (by omega))
     clear hx e1 hown hb
     go_wp2
     go_ret
     obtain ⟨v,k',rfl,h1,h2,h3⟩:=HR.out
     exact ⟨_,k',rfl,h1,h2,h3,HBF.out⟩
open Go
def lastX (ops:Array Oper) (st:Oper) (x:Nat):Bool:=st.guard.isNone&&(st.after.all (fun e=> !Region.binds .any e||decide (e.on<ops.size))&&(List.range ops.size).all fun j=>
 j==x||(st.after.any (fun e=>Region.binds .any e&&e.on==j)||(List.range ops.size).any fun k=>decide (j<k)&&(k !=x&&match ops[k]? with
   | some o=>o.after.any fun e=>Region.binds .any e&&e.on==j
   | none=>false)))
def isExt (o:Oper):Bool:=match o.op with
 | .extract _ _=>true
 | _=>false
theorem ext_runs {P:Program} {o:Oper} (h:isExt o=true) (a:Act):(∃v,∀w,(execOp a.eval o).run P w= .ok (.value v) w) \/ (∀w,∃s,(execOp a.eval o).run P w= .halt (.stuck s) w):=by
 unfold isExt at h
 split at h
 · rename_i t ix hop
   simp only [execOp,hop]
   cases hv:a.eval t<;>simp [Instr.extract]
   rename_i vs
   cases hx:vs[ix]? with
   | some u=>exact .inl ⟨u,fun w=>by simp⟩
   | none=>exact .inr fun w=>by simp
 · cases h
theorem ext_asks {P:Program} {o:Oper} (h:isExt o=true) (a:Act) (w:World):¬o.asks P a w:=by
 unfold isExt at h
 split at h
 · rename_i t ix hop
   intro hh
   have h1:=hh.1
   have h2:((execOp a.eval o).runT P w #[]).2=#[]:=by
     simp only [execOp,hop]
     cases hv:a.eval t
     case tuple vs=>
       cases hx:vs[ix]? with
       | none=>simp only [Instr.extract,hx];rfl
       | some u=>simp only [Instr.extract,hx];rfl
     all_goals rfl
   rw [h2] at h1
   simp at h1
 · cases h
theorem ext_wp {P:Program} {o:Oper} (h:isExt o=true) {a:Act} {w:World} {K:Act -> World -> Prop} {Q:Exit -> Act -> World -> Prop} (hw:o.wp P a w K Q):∃v,(∀w,(execOp a.eval o).run P w= .ok (.value v) w) /\ K (a.put o.dst v) w:=by
 rcases ext_runs (P:=P) h a with ⟨v,hv⟩ | hv
 · refine ⟨v,hv,?_⟩
   unfold Oper.wp at hw
   rw [hv w] at hw
   exact hw
 · obtain ⟨s,hs⟩:=hv w
   unfold Oper.wp at hw
   rw [hs] at hw
   exact hw.elim
theorem last_waitsX {ops:Array Oper} {st:Oper} {x:Nat} {listed:Array Bool} (hl:lastX ops st x=true) (hc:Closed ops listed) (hsz:listed.size=ops.size) (hs:∀e∈st.after,Region.binds .any e=true -> e.on<ops.size -> listed.getD e.on false=true):∀d j,j+d=ops.size -> j<ops.size -> j≠x -> listed.getD j false=true:=by
 simp only [lastX,Bool.and_eq_true] at hl
 intro d
 induction d using Nat.strongRecOn with
 | _ d ih=>
   intro j hd hj hjx
   have h1:=List.all_eq_true.1 hl.2.2 j (List.mem_range.2 hj)
   rw [Bool.or_eq_true,Bool.or_eq_true] at h1
   rcases h1 with h1 | h1 | h1
   · exact absurd (by simpa using h1) hjx
   · obtain ⟨e,he,h2⟩:=arr_any h1
     rw [Bool.and_eq_true,beq_iff_eq] at h2
     rw [<- h2.2]
     exact hs e he h2.1 (by rw [h2.2];exact hj)
   · obtain ⟨k,hk,h2⟩:=List.any_eq_true.1 h1
     rw [List.mem_range] at hk
     rw [Bool.and_eq_true,Bool.and_eq_true,decide_eq_true_eq] at h2
     have ho:ops[k]? =some ops[k]:=Array.getElem?_eq_getElem hk
     simp only [ho] at h2
     obtain ⟨e,he,h3⟩:=arr_any h2.2.2
     rw [Bool.and_eq_true,beq_iff_eq] at h3
     have hkl:=ih (d-(k-j)) (by omega) k (by omega) hk (by simpa using h2.2.1)
     rw [<- h3.2]
     refine hc k _ ho ?_ e he h3.1
     have hk' :k<listed.size:=by omega
     simpa [hk'] using hkl
theorem ready_pushX {ops:Array Oper} {st:Oper} {x:Nat} {listed:Array Bool} (hf:fwdB ops=true) (hl:lastX ops st x=true) (hc:Closed ops listed) (hsz:listed.size=ops.size) {z:Nat} (hz:z<ops.size) (hzx:z≠x) (hzu:listed.getD z false=false) (i:Nat):
   i∈Region.ready .any (ops.push st) (listed.push false)↔i∈Region.ready .any ops listed:=by
 rw [mem_ready,mem_ready]
 rcases Nat.lt_trichotomy i ops.size with hi | hi | hi
 · rw [getD_push true (by omega),getElem_pushO hi]
   refine and_congr_right fun _=>exists_congr fun o=>and_congr_right fun ho=>forall_congr' fun e=>forall_congr' fun he=>forall_congr' fun hb=> ?_
   have:=(fwd_spec hf ho).2 e he hb
   rw [getD_push false (by omega)]
 · subst hi
   constructor
   · rintro ⟨_,o,ho,hall⟩
     have ho' :o=st:=by
       rw [Array.getElem?_push,if_pos rfl] at ho
       exact (Option.some.inj ho).symm
     subst ho'
     exfalso
     have hall2:=last_waitsX hl hc hsz (fun e he hb hlt=>by have:=hall e he hb;rwa [getD_push false (by omega)] at this)
     have:=hall2 (ops.size-z) z (by omega) hz hzx
     rw [hzu] at this
     cases this
   · rintro ⟨_,o,ho,_⟩
     rw [Array.getElem?_eq_none (Nat.le_refl _)] at ho
     cases ho
 · constructor
   · rintro ⟨_,o,ho,_⟩
     rw [Array.getElem?_eq_none (by simp;omega)] at ho
     cases ho
   · rintro ⟨_,o,ho,_⟩
     rw [Array.getElem?_eq_none (by omega)] at ho
     cases ho
theorem ready_lastX {ops:Array Oper} {st:Oper} {x:Nat} {listed:Array Bool} (hl:lastX ops st x=true) (hsz:listed.size=ops.size) (hall:∀j,j<ops.size -> listed.getD j false=true) (i:Nat):
   i∈Region.ready .any (ops.push st) (listed.push false)↔i=ops.size:=by
 rw [mem_ready]
 simp only [lastX,Bool.and_eq_true] at hl
 rcases Nat.lt_trichotomy i ops.size with hi | hi | hi
 · have h1:=hall i hi
   have hi' :i<listed.size:=by omega
   constructor
   · rintro ⟨h0,_⟩
     rw [getD_push true hi'] at h0
     simp [hi'] at h0 h1
     rw [h0] at h1
     cases h1
   · intro h;omega
 · subst hi
   refine ⟨fun _=>rfl,fun _=>⟨by simp [<- hsz],st,by rw [Array.getElem?_push,if_pos rfl],fun e he hb=> ?_⟩⟩
   have h2:=Array.all_eq_true_iff_forall_mem.1 hl.2.1 e he
   rw [hb] at h2
   have h3:e.on<ops.size:=by simpa using h2
   rw [getD_push false (by omega)]
   exact hall e.on h3
 · constructor
   · rintro ⟨_,o,ho,_⟩
     rw [Array.getElem?_eq_none (by simp;omega)] at ho
     cases ho
   · intro h;omega
theorem push_set {listed:Array Bool} {i:Nat} (hi:i<listed.size):(listed.push false).setIfInBounds i true=(listed.setIfInBounds i true).push false:=by
 apply Array.ext_getElem?
 intro k
 rw [Array.getElem?_setIfInBounds,Array.getElem?_push,Array.getElem?_push,Array.getElem?_setIfInBounds]
 by_cases h3:i=k
 · subst h3
   simp [hi,Nat.ne_of_lt hi]
   omega
 · simp [h3]
theorem pop_soundX {P:Program} {ops:Array Oper} {st ox:Oper} {x:Nat} {Q:Exit -> Act -> World -> Prop} (hf:fwdB ops=true) (hl:lastX ops st x=true) (hx:ops[x]? =some ox) (hext:isExt ox=true) (hap:ox.apart (ops.push st) st=true) (hsel:Region.noSelect (ops.push st)=true) (hQ:∀c a w,¬Q (.panic c) a w):∀(fuel:Nat) (listed:Array Bool) (a:Act) (w:World),listed.size=ops.size -> Closed ops listed ->
   wpAny P .any ops (BackQ P st Q) fuel listed a w -> wpAny P .any (ops.push st) Q (fuel+1) (listed.push false) a w:=by
 have hxlt:x<ops.size:=(Array.getElem?_eq_some_iff.1 hx).1
 have hgd:st.guard=none:=by
   simp only [lastX,Bool.and_eq_true,Option.isNone_iff_eq_none] at hl
   exact hl.1
 have fin:∀(fuel:Nat) (listed:Array Bool) (a:Act) (w:World),listed.size=ops.size -> Region.ready .any ops listed=[] -> BackQ P st Q .normal a w -> wpAny P .any (ops.push st) Q (fuel+1) (listed.push false) a w:=by
   intro fuel listed a w hsz hr hq
   have hall:=all_listed hf hsz hr
   refine ⟨fun h=> ?_,fun i hi=> ?_⟩
   · have:=(ready_lastX (st:=st) hl hsz hall ops.size).2 rfl
     rw [h] at this
     cases this
   · rw [ready_lastX hl hsz hall] at hi
     subst hi
     have ho:(ops.push st)[ops.size]? =some st:=by rw [Array.getElem?_push,if_pos rfl]
     unfold wpOp
     simp only [ho,Region.wanted,hgd,if_true]
     refine .inl (Oper.wp_mono (fun a' w' h=> ?_) hq)
     have hd:=ready_done (st:=st) hsz hall
     cases fuel with
     | zero=>exact ⟨hd,h⟩
     | succ n=>exact ⟨fun _=>h,by rw [hd];simp⟩
 intro fuel
 induction fuel with
 | zero=>
   intro listed a w hsz hc h
   exact fin 0 listed a w hsz h.1 h.2
 | succ fuel ih=>
   intro listed a w hsz hc h
   by_cases hr:Region.ready .any ops listed=[]
   · exact fin (fuel+1) listed a w hsz hr (h.1 hr)
   have hcl:∀{i:Nat} {o:Oper},ops[i]? =some o -> (∀e∈o.after,Region.binds .any e=true -> listed.getD e.on false=true) -> Closed ops (listed.setIfInBounds i true):=by
     intro i o ho hdep j oj hoj hlj e he hb
     by_cases hij:i=j
     · subst hij
       rw [ho] at hoj
       cases hoj
       exact getD_set_true (hdep e he hb)
     · rw [getD_set_ne true hij] at hlj
       exact getD_set_true (hc j oj hoj hlj e he hb)
   by_cases hone:∃z,z<ops.size /\ z≠x /\ listed.getD z false=false
   · obtain ⟨z,hz,hzx,hzu⟩:=hone
     have RP:=ready_pushX hf hl hc hsz hz hzx hzu
     refine ⟨fun h0=> ?_,fun i hi=> ?_⟩
     · exfalso
       apply hr
       apply List.eq_nil_iff_forall_not_mem.2
       intro j hj
       have:=(RP j).2 hj
       rw [h0] at this
       cases this
     · have hi':=(RP i).1 hi
       have h1:=h.2 i hi'
       obtain ⟨hun,o,ho,hdep⟩:=mem_ready.1 hi'
       have hilt:i<ops.size:=(Array.getElem?_eq_some_iff.1 ho).1
       have ho' :(ops.push st)[i]? =some o:=by rw [getElem_pushO hilt];exact ho
       have hg:=(fwd_spec hf ho).1
       unfold wpOp at h1 ⊢
       simp only [ho,ho',Region.wanted,hg,if_true] at h1 ⊢
       rw [push_set (by omega)]
       refine h1.imp (fun hh=>wp_back (fun a' w' hk=>ih _ a' w' (by simpa using hsz) (hcl ho hdep) hk) hh) (fun hh=>⟨hh.1,hh.2⟩)
   · have hall:∀j,j<ops.size -> j≠x -> listed.getD j false=true:=by
       intro j hj hjx
       cases e:listed.getD j false with
       | true=>rfl
       | false=>exact absurd ⟨j,hj,hjx,e⟩ hone
     have hxu:listed.getD x true=false:=by
       cases e:listed.getD x true with
       | false=>rfl
       | true=>
         exfalso
         apply hr
         apply List.eq_nil_iff_forall_not_mem.2
         intro j hj
         obtain ⟨h0,o,hoj,_⟩:=mem_ready.1 hj
         have hjlt:j<ops.size:=(Array.getElem?_eq_some_iff.1 hoj).1
         have hj' :j<listed.size:=by omega
         by_cases hjx:j=x
         · subst hjx;rw [h0] at e;cases e
         · have h1:=hall j hjlt hjx
           simp [hj'] at h0 h1
           rw [h0] at h1
           cases h1
     have hg:=(fwd_spec hf hx).1
     have hdepx:∀e∈ox.after,Region.binds .any e=true -> listed.getD e.on false=true:=fun e he hb=>by
       have:=(fwd_spec hf hx).2 e he hb
       exact hall e.on (by omega) (by omega)
     have hrx:x∈Region.ready .any ops listed:=mem_ready.2 ⟨hxu,ox,hx,hdepx⟩
     have h1:=h.2 x hrx
     unfold wpOp at h1
     simp only [hx,Region.wanted,hg,if_true] at h1
     have h2:ox.wp P a w (wpAny P .any ops (BackQ P st Q) fuel (listed.setIfInBounds x true)) (BackQ P st Q):=by
       rcases h1 with h1 | h1
       · exact h1
       · exact absurd h1.1 (ext_asks hext a w)
     obtain ⟨v,hv,hk⟩:=ext_wp hext h2
     have h3:=ih _ _ _ (by simpa using hsz) (hcl hx hdepx) hk
     rw [<- push_set (by omega)] at h3
     refine wpAny_first (i:=x) (oi:=ox) (v:=v) (by rw [getElem_pushO hxlt];exact hx) (Region.noSelect_spec hsel) (fun c a w hq=>absurd hq (hQ _ _ _)) (fuel+1) (listed.push false) a w ?_ ?_ (.inl ⟨by simp [Region.wanted,hg],hv⟩) h3
     · intro j oj hoj hjx hju _
       by_cases hj:j<ops.size
       · have h4:=hall j hj hjx
         rw [getD_push true (by omega)] at hju
         have hj' :j<listed.size:=by omega
         simp [hj'] at hju h4
         rw [hju] at h4
         cases h4
       · have hjlt:j<ops.size+1:=by simpa using (Array.getElem?_eq_some_iff.1 hoj).1
         have:j=ops.size:=by omega
         subst this
         rw [Array.getElem?_push,if_pos rfl] at hoj
         cases hoj
         exact hap
     · rw [mem_ready]
       refine ⟨by rw [getD_push true (by omega)];exact hxu,ox,by rw [getElem_pushO hxlt];exact hx,fun e he hb=> ?_⟩
       have:=(fwd_spec hf hx).2 e he hb
       rw [getD_push false (by omega)]
       exact hdepx e he hb
theorem wp_region_backX {P:Program} (x:Nat) {id:Nat} {full:Array Oper} {Q:Exit -> Act -> World -> Prop} {S:World -> Prop} {a:Act} {w:World} (hm:P.follows .mixedOrders=true) (hn:0<full.size) (hf:fwdB full.pop=true) (hl:lastX full.pop full.back! x=true) (hx:(match full.pop[x]? with | some o=>isExt o&&o.apart full full.back! | none=>false)=true) (hsel:Region.noSelect full=true) (hS:S w.drew)
   (h:S w.drew -> wpAnyH P .any full.pop (BackQ P full.back! (NoPanic Q)) S full.pop.size (Array.replicate full.pop.size false) a w.drew):(Code.region id full true).wp P Q a w:=by
 refine wp_region_noPanic ?_
 have e:full=full.pop.push full.back! :=(Array.eq_push_pop_back!_of_size_ne_zero (by omega))
 generalize full.pop=ops at*
 generalize full.back! =st at*
 subst e
 refine wp_region_any hm ?_
 have h1:=wpAny_of_held _ _ _ _ (h hS)
 cases hxo:ops[x]? with
 | none=>rw [hxo] at hx;cases hx
 | some ox=>
   rw [hxo] at hx
   simp only [Bool.and_eq_true] at hx
   have h2:=pop_soundX hf hl hxo hx.1 hx.2 hsel (fun c a w h=>h) ops.size _ a w.drew (by simp) (by
     intro j o hj hlj
     have:j<ops.size:=(Array.getElem?_eq_some_iff.1 hj).1
     simp [this] at hlj) h1
   have e1:(Array.replicate ops.size false).push false=Array.replicate (ops.push st).size false:=by
     apply Array.ext
     · simp
     · intro k h1 h2
       simp [Array.getElem_push]
   rw [e1] at h2
   have e2:(ops.push st).size=ops.size+1:=by simp
   rw [e2] at h2 ⊢
   exact h2
structure FarB (go:Nat) (w w' :World):Prop where
 size:w.heap.size <= w'.heap.size
 block:∀b,b<w.heap.size -> b≠go -> w'.heap[b]? =w.heap[b]?
theorem FarB.refl (go:Nat) (w:World):FarB go w w:=⟨Nat.le_refl _,fun _ _ _=>rfl⟩
theorem FarB.below {go:Nat} {w w' w'' :World} (h:FarB go w w') (hb:Below w'.heap.size w' w''):FarB go w w'':=⟨Nat.le_trans h.size hb.size,fun b h1 h2=>(hb.block b (Nat.lt_of_lt_of_le h1 h.size)).trans (h.block b h1 h2)⟩
theorem FarB.set {go:Nat} {w w' :World} (h:FarB go w w') (j:Nat) (u:Value):FarB go w (w'.setCell ⟨go,j,none⟩ u):=⟨by simpa [World.setCell] using h.size,fun b h1 h2=>by rw [Below.heap_setCell _ _ _ _ (fun e=>h2 e)];exact h.block b h1 h2⟩
theorem AM.setFar {W:World} {base go n:Nat} {val:Nat -> Value} {pcs:Nat -> List P3} (A:AM W base go n val pcs) {g j:Nat} {u:Value} (h:g<base):AM (W.setCell ⟨g,j,none⟩ u) base go n val pcs:=by
 refine ⟨ownsRow_setBox A.own (fun e=> ?_),fun v hv=>ownsRow_setBox (A.inn v hv) (fun e=> ?_),A.ap⟩
 · have:=(A.own.lt _ e).1;omega
 · have:=((A.inn v hv).lt _ e).1;omega
set_option maxRecDepth 100000 in
set_option maxHeartbeats 4000000 in
theorem bsTake_any (base go n cap base2 go2 cap2:Nat) (val val2:Nat -> Value) (T N:Nat -> List P3) (B:Int) (hB:B <= 1000000) (hn:n <= 12) (w:World) (hT:AM w base go n val T) (hN:AM w base2 go2 n val2 N) (hg:go<base2) (hTs:∀v,v<n -> Sm B (T v)) (hNs:∀v,v<n -> Sm B (N v)):
   Calls Seq.prog 56 #[.slice (some ⟨go,0,none⟩) n cap,.slice (some ⟨go2,0,none⟩) n cap2] w fun r w' =>r= .returned (.tuple #[]) /\ ∃val' T',AM w' base go n val' T' /\ (∀v,v<n -> Sm B (T' v) /\ ∀t,tel (T' v) t=mrg 1 (tel (T v) t) (tel (N v) t)) /\ AM w' base2 go2 n val2 N /\ Below base w w' /\ FarB go w w':=by
 have HT0:=hideg hT
 have HN0:=hideg hN
 have HTs:=hideg hTs
 have HNs:=hideg hNs
 have hbg:Hid (base <= go):=(hT.own.lt go rfl).1
 clear hT hN hTs hNs
 go_enter Seq.func56,Tryz.ntmps56
 go_wp2
 go_loopw [7] (fun i wr=>∃(k:Nat) (va:Nat -> Value) (T' :Nat -> List P3),k <= n /\ i= .int .i64 k /\ AM wr base go n va T' /\ (∀v,v<n -> Sm B (T' v) /\ ∀t,tel (T' v) t=if v<k then mrg 1 (tel (T v) t) (tel (N v) t) else tel (T v) t) /\ AM wr base2 go2 n val2 N /\ Below base w wr /\ FarB go w wr) (fun i _=>n-(intOf i).toNat)
 case atStart=>exact ⟨0,val,T,Nat.zero_le _,rfl,HT0.out,fun v hv=>⟨HTs.out v hv,fun t=>by simp⟩,HN0.out,Below.refl _ _,FarB.refl _ _⟩
 case round=>
   clear HT0 HN0
   obtain ⟨k,va,T',hk,rfl,hA,hI,hA2,hb,hF⟩:=hrel
   have HA:=hideg hA
   have HA2:=hideg hA2
   have HI:=hideg hI
   have HB:=hideg hb
   have HF:=hideg hF
   clear hI hF
   by_cases hlt:k<n
   · have hki:(k:Int)<(n:Int):=by omega
     obtain ⟨a1,c1,ev,p1⟩:=pcAt_of_owns (hA.inn k hlt)
     obtain ⟨a2,c2,ev2,p2⟩:=pcAt_of_owns (hA2.inn k hlt)
     have x1:=hA.out hlt
     have x2:=hA2.out hlt
     rw [ev] at x1
     rw [ev2] at x2
     have hbd:Below wr.heap.size wr wr.drew:=(Below.refl _ _).drew
     have hM:Calls Seq.prog 15 #[.slice a1 (T' k).length c1,.slice a2 (N k).length c2,.int .i64 1] wr.drew fun e w' =>∃v r,e= .returned (.tuple #[v,.int .i64 0]) /\ Sm B r /\ (∀t,tel r t=mrg 1 (tel (T' k) t) (tel (N k) t)) /\ w'.ownsRow wr.heap.size 54 3 v r.length (enc3 r) /\ Below wr.heap.size wr w':=by
       refine (Merge_any 1 a1 a2 c1 c2 (T' k) (N k) wr.drew (p1.below hbd) (p2.below hbd)).mono ?_
       rintro e w' ⟨m,r,hO,v,rfl,ho,hb'⟩
       obtain ⟨rfl,h2,h3⟩:=sm_merge (HI.out k hlt).1 (HNs.out k hlt) hB hO
       exact ⟨v,r,rfl,h2,h3,ho,hbd.trans hb'⟩
     have HM:=hideg hM
     have l1:=(hA.own.lt go rfl).2
     have l2:=(hA2.own.lt go2 rfl).2
     have HAfter:Hid (∀w3,Below wr.heap.size wr w3 -> (w3.cell? ⟨go,k,none⟩=some (.slice a1 (T' k).length c1) /\ w3.cell? ⟨go2,k,none⟩=some (.slice a2 (N k).length c2))):=fun w3 h3=>
       ⟨(h3.cell (p:=⟨go,k,none⟩) l1).trans x1,(h3.cell (p:=⟨go2,k,none⟩) l2).trans x2⟩
     have SS:=HAfter.out _ hbd
     clear hA hA2 hM hb x1 x2 p1 p2 ev ev2 hbd
     go_wp2_with fail
     refine wp_region_backX 13 (S:=fun w' =>w'.cell? ⟨go,k,none⟩=some (.slice a1 (T' k).length c1) /\ w'.cell? ⟨go2,k,none⟩=some (.slice a2 (N k).length c2)) (by kernel_rfl) (by simp) (by kernel_rfl) (by kernel_rfl) (by kernel_rfl) (by kernel_rfl) SS (fun hHeld=> ?_)
     simp only [List.pop_toArray,List.dropLast,List.back!_toArray,List.getLast!]
     refine take_lit (i:=0) (v:= ?_) rfl (by kernel_rfl) (by kernel_rfl) (by kernel_rfl) (fun _ _ _ h=>h) (Or.inl ⟨by rfl,?hy0⟩) (by assumption) ?_
     case hy0=>(intro w hSw;(try dsimp only at hSw);go_simp;try with_reducible rfl)
     try simp only [Act.put,List.setIfInBounds_toArray,List.set_cons_zero,List.set_cons_succ]
     refine take_lit (i:=1) (v:= ?_) rfl (by kernel_rfl) (by kernel_rfl) (by kernel_rfl) (fun _ _ _ h=>h) (Or.inl ⟨by rfl,?hy1⟩) (by assumption) ?_
     case hy1=>(intro w hSw;(try dsimp only at hSw);go_simp;try with_reducible rfl)
     try simp only [Act.put,List.setIfInBounds_toArray,List.set_cons_zero,List.set_cons_succ]
     refine take_lit (i:=2) (v:= ?_) rfl (by kernel_rfl) (by kernel_rfl) (by kernel_rfl) (fun _ _ _ h=>h) (Or.inl ⟨by rfl,?hy2⟩) (by assumption) ?_
     case hy2=>(intro w hSw;(try dsimp only at hSw);go_simp;try with_reducible rfl)
     try simp only [Act.put,List.setIfInBounds_toArray,List.set_cons_zero,List.set_cons_succ]
     refine take_lit (i:=3) (v:= ?_) rfl (by kernel_rfl) (by kernel_rfl) (by kernel_rfl) (fun _ _ _ h=>h) (Or.inl ⟨by rfl,?hy3⟩) (by assumption) ?_
     case hy3=>(intro w hSw;(try dsimp only at hSw);go_simp;try with_reducible rfl)
     try simp only [Act.put,List.setIfInBounds_toArray,List.set_cons_zero,List.set_cons_succ]
     refine take_lit (i:=4) (v:= ?_) rfl (by kernel_rfl) (by kernel_rfl) (by kernel_rfl) (fun _ _ _ h=>h) (Or.inl ⟨by rfl,?hy4⟩) (by assumption) ?_
     case hy4=>(intro w hSw;(try dsimp only at hSw);go_simp;try with_reducible rfl)
     try simp only [Act.put,List.setIfInBounds_toArray,List.set_cons_zero,List.set_cons_succ]
     refine take_lit (i:=5) (v:= ?_) rfl (by kernel_rfl) (by kernel_rfl) (by kernel_rfl) (fun _ _ _ h=>h) (Or.inl ⟨by rfl,?hy5⟩) (by assumption) ?_
     case hy5=>(intro w hSw;(try dsimp only at hSw);go_simp;try with_reducible rfl)
     try simp only [Act.put,List.setIfInBounds_toArray,List.set_cons_zero,List.set_cons_succ]
     refine take_lit (i:=6) (v:= ?_) rfl (by kernel_rfl) (by kernel_rfl) (by kernel_rfl) (fun _ _ _ h=>h) (Or.inl ⟨by rfl,?hy6⟩) (by assumption) ?_
     case hy6=>(intro w hSw;(try dsimp only at hSw);go_simp;try with_reducible rfl)
     try simp only [Act.put,List.setIfInBounds_toArray,List.set_cons_zero,List.set_cons_succ]
     refine take_lit (i:=7) (v:= ?_) rfl (by kernel_rfl) (by kernel_rfl) (by kernel_rfl) (fun _ _ _ h=>h) (Or.inl ⟨by rfl,?hy7⟩) (by assumption) ?_
     case hy7=>(intro w hSw;(try dsimp only at hSw);go_simp;try with_reducible rfl)
     try simp only [Act.put,List.setIfInBounds_toArray,List.set_cons_zero,List.set_cons_succ]
     refine take_lit (i:=8) (v:= ?_) rfl (by kernel_rfl) (by kernel_rfl) (by kernel_rfl) (fun _ _ _ h=>h) (Or.inl ⟨by rfl,?hy8⟩) (by assumption) ?_
     case hy8=>(intro w hSw;(try dsimp only at hSw);go_simp;try with_reducible rfl)
     try simp only [Act.put,List.setIfInBounds_toArray,List.set_cons_zero,List.set_cons_succ]
     refine take_lit (i:=9) (v:= ?_) rfl (by kernel_rfl) (by kernel_rfl) (by kernel_rfl) (fun _ _ _ h=>h) (Or.inl ⟨by rfl,?hy9⟩) (by assumption) ?_
     case hy9=>(intro w hSw;(try dsimp only at hSw);go_simp;try with_reducible rfl)
     try simp only [Act.put,List.setIfInBounds_toArray,List.set_cons_zero,List.set_cons_succ]
     refine next_lit (i:=10) rfl (by kernel_rfl) (fun K hK=> ?_)
     go_simp
     refine HM.out.mono ?_
     rintro e w3 ⟨v3,r3,rfl,hs3,ht3,ho3,hb3⟩
     obtain ⟨a3,c3,rfl,_⟩:=pcAt_of_owns ho3
     have KK:=HAfter.out w3 hb3
     refine hK.out _ _ KK (fun hHeld=> ?_)
     clear hK K hHeld
     try simp only [Act.put,List.setIfInBounds_toArray,List.set_cons_zero,List.set_cons_succ]
     refine take_lit (i:=11) (v:= ?_) rfl (by kernel_rfl) (by kernel_rfl) (by kernel_rfl) (fun _ _ _ h=>h) (Or.inl ⟨by rfl,?hy11⟩) (by assumption) ?_
     case hy11=>(intro w hSw;(try dsimp only at hSw);go_simp;try with_reducible rfl)
     try simp only [Act.put,List.setIfInBounds_toArray,List.set_cons_zero,List.set_cons_succ]
     refine take_lit (i:=12) (v:= ?_) rfl (by kernel_rfl) (by kernel_rfl) (by kernel_rfl) (fun _ _ _ h=>h) (Or.inl ⟨by rfl,?hy12⟩) (by assumption) ?_
     case hy12=>(intro w hSw;(try dsimp only at hSw);go_simp;try with_reducible rfl)
     try simp only [Act.put,List.setIfInBounds_toArray,List.set_cons_zero,List.set_cons_succ]
     refine take_lit (i:=13) (v:= ?_) rfl (by kernel_rfl) (by kernel_rfl) (by kernel_rfl) (fun _ _ _ h=>h) (Or.inl ⟨by rfl,?hy13⟩) (by assumption) ?_
     case hy13=>(intro w hSw;(try dsimp only at hSw);go_simp;try with_reducible rfl)
     try simp only [Act.put,List.setIfInBounds_toArray,List.set_cons_zero,List.set_cons_succ]
     refine take_lit (i:=14) (v:= ?_) rfl (by kernel_rfl) (by kernel_rfl) (by kernel_rfl) (fun _ _ _ h=>h) (Or.inl ⟨by rfl,?hy14⟩) (by assumption) ?_
     case hy14=>(intro w hSw;(try dsimp only at hSw);go_simp;try with_reducible rfl)
     try simp only [Act.put,List.setIfInBounds_toArray,List.set_cons_zero,List.set_cons_succ]
     refine wpAnyH_done (by kernel_rfl) ?_ _
     refine back_last (fun K hK=> ?_)
     have A3:=HA.out.below hb3
     have fz3:=World.ownsRow.frozenAt A3.own k
     have x3:=KK.1
     have HS5:=hideg (HA.out.set hlt hb3 (by have:=HB.out.size;have:=hbg.out;omega) ho3)
     have HS6:=hideg ((HA2.out.below hb3).setFar (j:=k) (u:= .slice a3 r3.length c3) hg)
     have HB7:=hideg ((HB.out.trans (hb3.mono (by have:=hbg.out;omega))).setCell (p:=⟨go,k,none⟩) hbg.out (.slice a3 r3.length c3))
     have HF7:=hideg ((HF.out.below hb3).set k (.slice a3 r3.length c3))
     clear A3 KK
     go_simp
     refine hK.out _ _ (NoPanic.normal ?_)
     clear hK K
     have HI7:Hid (∀v,v<n -> Sm B (updF T' k r3 v) /\ ∀t,tel (updF T' k r3 v) t=if v<k+1 then mrg 1 (tel (T v) t) (tel (N v) t) else tel (T v) t):=by
       intro v hv
       by_cases e:v=k
       · subst e
         rw [updF_same]
         refine ⟨hs3,fun t=> ?_⟩
         rw [ht3 t,(HI.out v hv).2 t,if_neg (by omega),if_pos (by omega)]
       · rw [updF_far _ _ e]
         refine ⟨(HI.out v hv).1,fun t=> ?_⟩
         rw [(HI.out v hv).2 t]
         by_cases h:v<k
         · rw [if_pos h,if_pos (by omega)]
         · rw [if_neg h,if_neg (by omega)]
     clear ho3 hb3 hs3 ht3
     go_wp2
     go_roundw
     case rel=>exact ⟨k+1,_,_,by omega,by go_num,HS5.out,HI7.out,HS6.out,HB7.out,HF7.out⟩
     case measure=>simp [intOf];omega
   · have hkn:k=n:=by omega
     subst hkn
     clear hA hA2 hb
     go_wp2
     go_end0
     exact ⟨rfl,va,T',HA.out,fun v hv=>⟨(HI.out v hv).1,fun t=>by rw [(HI.out v hv).2 t,if_pos hv]⟩,HA2.out,HB.out,HF.out⟩
end Go.Proofs.YtfphigmeppdocaaGreat.Q
