/-
  The law TopMore holds.
-/
import Derived.Lib.ItoaMem
import Derived.Lib.SplitLaws
import Derived.Test.YtfphigmeppdocaaGreatPk11
namespace Go.Proofs.YtfphigmeppdocaaGreat.Q
open Lo (Seq.prog)
def plusE (g:Gr) (x:Ed):Gr:=⟨g.hor,g.lives,g.edges++[x]⟩
theorem lands_plus (g:Gr) (x e:Ed) (t:Int):lands (plusE g x) e t=lands g e t:=rfl
theorem plus_edge {g:Gr} {x:Ed} {i:Nat} (hi:i<g.edges.length):∃h:i<(plusE g x).edges.length,(plusE g x).edges[i]=g.edges[i]:=by
 have h:i<(g.edges++[x]).length:=by simp;omega
 exact ⟨h,List.getElem_append_left hi⟩
theorem rch_more {g:Gr} {x:Ed} {v t a b:Int} (h:Rch g v t a b):Rch (plusE g x) v t a b:=by
 induction h with
 | base h=>exact .base h
 | wait _ h ih=>exact .wait ih h
 | @ride t q i hi _ h2 ih=>
   obtain ⟨hi',e⟩:=plus_edge (x:=x) hi
   have:=Rch.ride (g:=plusE g x) (q:=q) i hi' (by rw [e];exact ih) (by rw [e,lands_plus];exact h2)
   rw [e] at this
   exact this
theorem arr_more {g:Gr} {x:Ed} (R:Right g) (R' :Right (plusE g x)) {v t:Int} (h0:0 <= v) (k:Nat) (hk:k<g.lives.length):(erF (plusE g x) v t).1.getD k 0 <= (erF g v t).1.getD k 0:=by
 by_cases ha:aliveB t g.lives v=true
 · obtain ⟨E,L⟩:=erF_ok R h0 ha
   obtain ⟨E2,L2⟩:=erF_ok R' (v:=v) (t:=t) h0 ha
   have hle:(erF (plusE g x) v t).1.getD k 0 <= 1099511627776:=by
     rcases E2.is k hk with e | e
     · omega
     · have h1:=(e.place R' h0).2.2.2
       have h2:=R'.hor
       omega
   rcases E.is k hk with e | e
   · rw [e];exact hle
   · exact L2 k _ (rch_more e)
 · rw [erF_away ha,erF_away (g:=plusE g x) ha]
   exact Int.le_refl _
theorem rides_more {g:Gr} {x:Ed} {r:Ri} (h:r∈ridesF g):r∈ridesF (plusE g x):=by
 unfold ridesF at h ⊢
 obtain ⟨j,hj,h1⟩:=mem_ridesTo.1 h
 obtain ⟨i,hi,q,hlt,h2,rfl⟩:=(mem_ridesAt (Nat.le_refl _)).1 h1
 obtain ⟨hi',e⟩:=plus_edge (x:=x) hi
 refine mem_ridesTo.2 ⟨j,hj,(mem_ridesAt (Nat.le_refl _)).2 ⟨i,hi',q,hi',by rw [e,lands_plus];exact h2,by rw [e]⟩⟩
theorem pd_more {g:Gr} {x:Ed} {F:Int -> Int -> Option Int} {pr:Ri -> Int} {v t p:Int} (h:Pd g F pr v t p):Pd (plusE g x) F pr v t p:=by
 induction h with
 | base h=>exact .base h
 | wait _ h ih=>exact .wait ih h
 | ride hr _ ih=>exact .ride (rides_more hr) ih
theorem costs_more {g:Gr} {x:Ed} (R' :Right (plusE g x)) {v t:Int} (h0:0 <= v) {L L' :List Int} (h:LeastIs g prCost v t L) (h' :LeastIs (plusE g x) prCost v t L') (k:Nat) (hk:k<g.lives.length):L'.getD k 0 <= L.getD k 0:=by
 rcases h.is k hk with e | ⟨t1,e⟩
 · rw [e]
   rcases h'.is k hk with e' | ⟨t2,e'⟩
   · omega
   · have:=e'.range R' (prCost_ok R') h0
     omega
 · exact h'.least k hk t1 _ ⟨e.1,pd_more e.2⟩
theorem plF_best {g:Gr} (h0:gChk g=0) (fr:Int) (t:Nat):Best (firstL (aliveL t g.lives) (begF 2 fr)) (arcsL t g.lives g.edges) (pricZ 2) (plF g 2 fr t).1:=by
 have S:=shot_snap (gChk_right h0) (t:Int)
 obtain ⟨k,e,h1,h2,_⟩:=plF_is h0 2 fr t
 have R:PlIs g 2 fr t (XX g 2 fr k t) k:=plIs_iff.2 ⟨rfl,h1,h2⟩
 rw [e]
 unfold PlIs at R
 exact rounds_best (fine_prog S fr (.inr (.inl rfl))).1 (fine_prog S fr (.inr (.inl rfl))).2 R
theorem plF_more {g:Gr} {x:Ed} (h0:gChk g=0) (h1:gChk (plusE g x)=0) (fr:Int) (t:Nat) (k:Nat) (hk:k<g.lives.length):(plF (plusE g x) 2 fr t).1.getD k 0 <= (plF g 2 fr t).1.getD k 0:=by
 have B:=plF_best h0 fr t
 have B':=plF_best h1 fr t
 have ha:arcsL t (plusE g x).lives (plusE g x).edges=arcsL t g.lives g.edges++arcsL t g.lives [x]:=by simp [plusE,arcsL]
 rw [ha] at B'
 have hl:(firstL (aliveL t g.lives) (begF 2 fr)).length=g.lives.length:=by rw [firstL_length,aliveL_length]
 exact B.mid.most (fun v=>(plF (plusE g x) 2 fr t).1.getD v 0) ⟨B'.mid.le,fun a h=>B'.cl a (List.mem_append_left _ h)⟩ k (by rw [hl];exact hk)
theorem sm_allP {g:Gr} (h0:gChk g=0) (fr:Int) {k:Nat} (hk:k<g.lives.length):Sm 400000 (allP g 2 fr k g.hor.toNat):=by
 have hor:=(gChk_right h0).hor
 obtain ⟨h1,h2,h3⟩:=allP_is h0 2 fr hk g.hor.toNat
 refine ⟨h1,fun q hq=>by have:=h2 q hq;omega,fun q hq=> ?_⟩
 have e:=tel_start h1 q hq
 rw [h3] at e
 have hq2:=h2 q hq
 have hp:=mcan_pos h1 q hq
 rw [if_pos (by omega)] at e
 unfold optI at e
 split at e
 · rename_i hlt
   simp only [Option.some.injEq] at e
   have:=plF_near h0 (.inr (.inl rfl)) fr q.1.toNat hk hlt
   omega
 · cases e
theorem maps_more {g:Gr} {x:Ed} (h0:gChk g=0) (h1:gChk (plusE g x)=0) (fr:Int) {k:Nat} (hk:k<g.lives.length) {r:List P3} (hr:Sm 400000 r) (ht:∀t,tel r t=mrg 1 (tel (allP g 2 fr k g.hor.toNat) t) (tel (allP (plusE g x) 2 fr k g.hor.toNat) t)):r=allP (plusE g x) 2 fr k g.hor.toNat:=by
 obtain ⟨c1,_,e1⟩:=allP_is h0 2 fr hk g.hor.toNat
 obtain ⟨c2,_,e2⟩:=allP_is h1 2 fr (v:=k) hk g.hor.toNat
 refine mcan_unique hr.canon c2 fun t=> ?_
 rw [ht,e1,e2]
 by_cases h:0 <= t /\ t<(g.hor.toNat:Int)
 · rw [if_pos h,if_pos h]
   have:=plF_more h0 h1 fr t.toNat k hk
   generalize (plF g 2 fr t.toNat).1.getD k 0=a at*
   generalize (plF (plusE g x) 2 fr t.toNat).1.getD k 0=b at*
   unfold optI
   by_cases ha:a<1099511627776
   · rw [if_pos ha,if_pos (by omega)]
     show some (both 1 a b)=some b
     unfold both
     simp
     omega
   · rw [if_neg ha]
     split<;>rfl
 · rw [if_neg h,if_neg h]
   rfl
open Go.Lib
def sp (c:UInt8):List UInt8 -> List (List UInt8)
 | []=>[[]]
 | x::l=>if x=c then []::sp c l else ((x::(sp c l).headD [])::(sp c l).tail)
def nv (n:Nat) (l:List UInt8):Nat:=l.foldl (fun n b=>10*n+(b.toNat- 48)) n
def wTime:List UInt8:=[116,105,109,101]
def wVertex:List UInt8:=[118,101,114,116,101,120]
def wEdge:List UInt8:=[101,100,103,101]
def wLeg:List UInt8:=[108,101,103]
def putLeg (es:List Ed) (l:Lg):List Ed:=match es.getLast? with
 | none=>es
 | some e=>es.dropLast++[(e.1,e.2.1,e.2.2++[l])]
def put (g:Gr) (k:List UInt8) (ns:List Int):Option Gr:=
 match ns with
 | [a]=>if k=wTime then some {g with hor:=a } else none
 | [a,b]=>if k=wVertex /\ g.edges=[] then some {g with lives:=g.lives++[(a,b)] } else if k=wEdge then some {g with edges:=g.edges++[(a,b,[])] } else none
 | [a,b,c,d]=>if k=wLeg /\ g.edges≠[] then some {g with edges:=putLeg g.edges (a,b,c,d) } else none
 | _=>none
def g0:Gr:=⟨0,[],[]⟩
open Go.RowKit
def encE (L:List (Ed×Value)):List Value:=L.flatMap fun p=>[.int .i64 p.1.1,.int .i64 p.1.2.1,p.2]
theorem encE_append (a b:List (Ed×Value)):encE (a++b)=encE a++encE b:=by unfold encE;rw [List.flatMap_append]
theorem encE_cons (p:Ed×Value) (m:List (Ed×Value)):encE (p::m)= .int .i64 p.1.1:: .int .i64 p.1.2.1::p.2::encE m:=by unfold encE;rw [List.flatMap_cons];rfl
theorem encE_length:∀m:List (Ed×Value),(encE m).length=m.length*3
 | []=>rfl
 | l::m=>by rw [encE_cons];have:=encE_length m;simp [this];omega
theorem encE_get:∀(m:List (Ed×Value)) (j:Nat) (h:j<m.length),(encE m)[j*3]? =some (.int .i64 m[j].1.1) /\ (encE m)[j*3+1]? =some (.int .i64 m[j].1.2.1) /\ (encE m)[j*3+2]? =some m[j].2
 | [],j,h=>by simp at h
 | l::m,0,_=>by rw [encE_cons];exact ⟨rfl,rfl,rfl⟩
 | l::m,j+1,h=>by
   have:=encE_get m j (by simp at h;omega)
   rw [encE_cons,show (j+1)*3=j*3+3 by omega]
   simpa using this
theorem row_set {w:World} {base e size:Nat} {v:Value} {n:Nat} {xs:List Value} {b j:Nat} {u:Value} (h:w.ownsRow base e size v n xs) (hne:v.ownBlock≠some b):(w.setCell ⟨b,j,none⟩ u).ownsRow base e size v n xs:=
 h.kept (row:=some b) ⟨rfl,rfl,rfl,by simp [World.setCell],fun k _ hk=>Below.heap_setCell _ _ _ _ (fun e=>hk (by simp [e]))⟩ (Or.inr hne)
theorem row_form {w:World} {base e size:Nat} {v:Value} {n:Nat} {xs:List Value} (h:w.ownsRow base e size v n xs):∃ao cap,v= .slice ao n cap /\ n <= cap /\ cap <= 9223372036854775807:=by
 rcases h.2 with ⟨rfl,h0⟩ | ⟨g,cap,cur,rfl,hb,hh,h3,h4,_⟩
 · exact ⟨none,0,by rw [h0],by omega,by omega⟩
 · exact ⟨_,cap,rfl,h3,by unfold maxLen at h4;omega⟩
def EcAt (w:World) (ao:Option Addr) (L:List (Ed×Value)):Prop:=
 L=[] \/ ∃b off,ao=some ⟨b,off,none⟩ /\ b<w.heap.size /\ ∀j (h:j<L.length),w.cell? ⟨b,off+j*3,none⟩=some (.int .i64 L[j].1.1) /\ w.cell? ⟨b,off+j*3+1,none⟩=some (.int .i64 L[j].1.2.1) /\ w.cell? ⟨b,off+j*3+2,none⟩=some L[j].2
def LvAt (w:World) (p:Ed×Value):Prop:=∃la lc,p.2= .slice la p.1.2.2.length lc /\ LgAt w la p.1.2.2 /\ p.1.2.2.length <= lc /\ lc <= 9223372036854775807
theorem ecAt_of {w:World} {ao:Option Addr} {m:List Ed} (h:EdAt w ao m):∃L:List (Ed×Value),L.map (·.1)=m /\ EcAt w ao L /\ ∀p∈L,LvAt w p:=by
 rcases h with rfl | ⟨b,off,rfl,hlt,hc⟩
 · exact ⟨[],rfl,.inl rfl,fun p hp=>by cases hp⟩
 · obtain ⟨V,hV⟩:∃V:Nat -> Value,∀j (hj:j<m.length),w.cell? ⟨b,off+j*3+2,none⟩=some (V j) /\ LvAt w (m[j],V j):=by
     refine ⟨fun j=>(w.cell? ⟨b,off+j*3+2,none⟩).getD undef,fun j hj=> ?_⟩
     obtain ⟨_,_,la,lc,h2,h3,h4,h5⟩:=hc j hj
     exact ⟨by simp only [h2];rfl,la,lc,by simp only [h2];rfl,h3,h4,h5⟩
   refine ⟨m.mapIdx fun j e=>(e,V j),by simp [List.mapIdx_eq_zipIdx_map,Function.comp_def],.inr ⟨b,off,rfl,hlt,fun j hj=> ?_⟩,fun p hp=> ?_⟩
   · have hj' :j<m.length:=by simpa using hj
     obtain ⟨h0,h1,_⟩:=hc j hj'
     simp only [List.getElem_mapIdx]
     exact ⟨h0,h1,(hV j hj').1⟩
   · obtain ⟨j,hj,rfl⟩:=List.mem_mapIdx.1 hp
     exact (hV j hj).2
theorem edAt_of {w:World} {base e:Nat} {v:Value} {n:Nat} {L:List (Ed×Value)} (h:w.ownsRow base e 3 v n (encE L)) (hL:∀p∈L,LvAt w p):∃ao cap,v= .slice ao L.length cap /\ EdAt w ao (L.map (·.1)):=by
 have hn:n=L.length:=by have:=h.1;rw [encE_length] at this;omega
 subst hn
 rcases h.2 with ⟨rfl,h0⟩ | ⟨g,cap,cur,rfl,_,hh,_⟩
 · exact ⟨none,0,by rw [h0],.inl (by rw [List.eq_nil_of_length_eq_zero h0];rfl)⟩
 · refine ⟨_,cap,rfl,.inr ⟨g,0,rfl,(Array.getElem?_eq_some_iff.1 hh).1,fun j hj=> ?_⟩⟩
   have hj' :j<L.length:=by simpa using hj
   obtain ⟨f0,f1,f2⟩:=encE_get L j hj'
   obtain ⟨la,lc,h1,h2,h3,h4⟩:=hL L[j] (List.getElem_mem hj')
   have ej:(L.map (·.1))[j]=L[j].1:=by simp
   unfold EdOne
   simp only [ej]
   rw [Nat.zero_add,h.cellAt (j*3) (by omega),h.cellAt (j*3+1) (by omega),h.cellAt (j*3+2) (by omega)]
   exact ⟨f0,f1,la,lc,by rw [f2,h1],h2,h3,h4⟩
set_option maxRecDepth 100000 in
set_option maxHeartbeats 1000000 in
theorem cloneE_any (ao:Option Addr) (cap:Nat) (L:List (Ed×Value)) (w:World) (hz:EcAt w ao L) (h1:∀p∈L,p.2.oneCell' =true) (h8:L.length*40 <= 140737488351232):
   Calls Seq.prog 12 #[.slice ao L.length cap] w fun e w' =>∃v',e= .returned v' /\ w'.ownsRow w.heap.size 47 3 v' L.length (encE L) /\ Below w.heap.size w w':=by
 obtain ⟨i0,hi,hz0,hz1,hz2⟩:=info_parts Tryz.infoEdge
 have q22:∀(w:World) (a:Option Addr) (n c n' c' :Nat),(binOp .eql 23 (.slice a n c) (.slice none n' c')).run Seq.prog w= .ok (.bool a.isNone) w:=fun w a n c n' c' =>Lib.run_eql_slice_nil w _ _ a n c n' c' ((Seq.pu 23).trans Tryz.underlying23)
 cases ao with
 | none=>
   have h0:L=[]:=by
     rcases hz with h | ⟨b,off,e,_⟩
     · exact h
     · cases e
   subst h0
   clear hz
   go_enter Seq.func12,Tryz.ntmps12
   go_wp2
   go_ret
   exact ⟨_,rfl,World.ownsRow_nil _ _ _ _,Below.refl _ _⟩
 | some a=>
   have hc:∀o,∀j u,(encE L)[j]? =some u -> (w.alloc o).cell? (a.add j)=some u:=by
     intro o j u hu
     have hj:j<(encE L).length:=(List.getElem?_eq_some_iff.1 hu).1
     rw [encE_length] at hj
     rcases hz with h | ⟨b,off,e,hlt,hc⟩
     · rw [h] at hj;simp at hj
     · simp only [Option.some.injEq] at e
       subst e
       rw [Go.WideShapes.add_plain]
       have hq:j/3<L.length:=by omega
       obtain ⟨f0,f1,f2⟩:=encE_get L (j/3) hq
       obtain ⟨c0,c1,c2⟩:=hc (j/3) hq
       rw [(gal w o).cell (p:=⟨b,off+j,none⟩) hlt]
       have hm:j%3=0 \/ j%3=1 \/ j%3=2:=by omega
       rcases hm with h | h | h
       · rw [show j=j/3*3 by omega] at hu ⊢
         rw [f0] at hu;cases hu
         exact c0
       · rw [show j=j/3*3+1 by omega] at hu ⊢
         rw [f1] at hu;cases hu
         exact c1
       · rw [show j=j/3*3+2 by omega] at hu ⊢
         rw [f2] at hu;cases hu
         exact c2
   have HC:=hideS hc
   have HONE:Hid (∀u∈encE L,u.oneCell' =true):=by
     intro u hu
     unfold encE at hu
     rw [List.mem_flatMap] at hu
     obtain ⟨p,hp,hu⟩:=hu
     simp only [List.mem_cons,List.not_mem_nil,or_false] at hu
     rcases hu with rfl | rfl | rfl
     · rfl
     · rfl
     · exact h1 p hp
   have HEL:Hid ((encE L).length=L.length*3):=encE_length L
   clear hc hz h1
   go_enter Seq.func12,Tryz.ntmps12
   go_wp2_with (at_builtin;refine wpList_append_own _ rfl _ _ 23 rfl w.heap.size 47 i0 (.agg #[.int .i64 0,.int .i64 0,.slice none 0 0]) 3 40 ((Seq.pu 23).trans Tryz.underlying23) hi hz0 hz1 hz2 rfl (by decide) _ _ _ rfl (World.ownsRow_made w #[] 0 (Nat.le_refl _) (Nat.zero_le _) rfl) a L.length cap (encE L) rfl HEL.out (HC.out _) HONE.out (by unfold maxLen;omega) (by omega) (by simp) ?_;intro v' w1 hown hgrow hnil)
   have hb:Below w.heap.size w w1:=((Below.refl _ w).alloc (Nat.le_refl _) _).grown hgrow (by simp) (fun k hk=>by cases hk;exact Nat.le_refl _)
   have R:w1.ownsRow w.heap.size 47 3 v' L.length (encE L):=by simpa using hown
   clear hown hgrow hnil
   go_wp2
   go_ret
   exact ⟨v',rfl,R,hb⟩
theorem neq_pc (x y:Int×Int×Int) (w:World):(binOp .neq 54 (.agg #[.int .i64 x.1,.int .i64 x.2.1,.int .i64 x.2.2]) (.agg #[.int .i64 y.1,.int .i64 y.2.1,.int .i64 y.2.2])).run Seq.prog w= .ok (.bool (!(x.1==y.1&&(x.2.1==y.2.1&&x.2.2==y.2.2)))) w:=by
 have u3:=((Seq.pu 3).trans Tryz.underlying3)
 have a3:=(fun w=>(Seq.ag 3 w).trans (Tryz.isAgg3 w))
 have z3:=(fun w=>(Seq.so 3 w).trans (Tryz.sizeOf3 w))
 have hS:Seq.prog.underlying 54=some (.struct (Seq.prog.fieldsOf 54)):=by kernel_rfl
 have hp:Seq.prog.stoodInHeld 54=false:=by kernel_rfl
 rw [run_neq_struct,show (10000:Nat)=9999+1 from rfl,run_equalIn_agg w 9999 54 _ _ hS hp]
 simp only [Program.fieldsOf,((Seq.pu 54).trans Tryz.underlying54)]
 go_simp
 by_cases h1:x.fst=y.fst<;>by_cases h2:x.snd.fst=y.snd.fst<;>by_cases h3:x.snd.snd=y.snd.snd<;>simp [h1,h2,h3]
set_option maxHeartbeats 2000000 in
theorem Equal3_any (ao bo:Option Addr) (ca cb:Nat) (a b:List (Int×Int×Int)) (w:World) (hA:PcAt w ao a) (hB:PcAt w bo b) (hl:a.length <= 9223372036854775807):
   Calls Seq.prog 16 #[.slice ao a.length ca,.slice bo b.length cb] w fun e w' =>e= .returned (.bool (decide (a=b))) /\ Below w.heap.size w w':=by
 by_cases hlen:a.length=b.length
 · have hm:Seq.prog.eqGuardType Seq.prog.depth 54=false:=by kernel_rfl
   have HLN:Hid (a.length=b.length):=hlen
   rw [<- hlen]
   have hne:((a.length:Int) !=(a.length:Int))=false:=by simp
   clear hlen
   go_enter Seq.func16,Tryz.ntmps16
   go_wp2
   go_loopw [5,13] (fun _ i wr=>∃k:Nat,k <= a.length /\ i= .int .i64 k /\ a.take k=b.take k /\ Below w.heap.size w wr) (fun _ i _=>a.length-(intOf i).toNat)
   case atStart=>exact ⟨0,Nat.zero_le _,rfl,rfl,Below.refl _ _⟩
   case round=>
     obtain ⟨k,hk,rfl,hh,hb⟩:=hrel
     have HH:Hid (a.take k=b.take k):=hh
     clear hh
     by_cases hlt:k<a.length
     · have hlt' :k<b.length:=by have:=HLN.out;omega
       rcases hA.below hb with h0 | ⟨b1,o1,rfl,hb1,hc1⟩
       · subst h0;simp at hlt
       rcases hB.below hb with h0 | ⟨b2,o2,rfl,hb2,hc2⟩
       · subst h0;simp at hlt'
       obtain ⟨c0,c1,c2⟩:=PcAt.get hlt hc1
       obtain ⟨d0,d1,d2⟩:=PcAt.get hlt' hc2
       have nq:=neq_pc a[k] b[k]
       clear hc1 hc2 hA hB
       by_cases g:a[k]=b[k]
       · have e1:(a[k].1==b[k].1)=true:=by rw [g];simp
         have e2:(a[k].2.1==b[k].2.1)=true:=by rw [g];simp
         have e3:(a[k].2.2==b[k].2.2)=true:=by rw [g];simp
         have HC:Hid (a.take (k+1)=b.take (k+1)):=by show _=_;rw [take_succ_get a k hlt,take_succ_get b k hlt',HH.out,g]
         rw [e1,e2,e3] at nq
         clear g e1 e2 e3
         go_wp2
         go_quiet (fail)
         go_wp2
         go_roundw
         case rel=>exact ⟨k+1,by omega,by go_num,HC.out,below_drewN hb _⟩
         case measure=>simp [intOf];omega
       · have e1:(a[k].1==b[k].1&&(a[k].2.1==b[k].2.1&&a[k].2.2==b[k].2.2))=false:=by
           rw [<- Bool.not_eq_true,Bool.and_eq_true,Bool.and_eq_true,beq_iff_eq,beq_iff_eq,beq_iff_eq]
           exact fun ⟨h,h',h''⟩=>g (Prod.ext h (Prod.ext h' h''))
         have HC:Hid (decide (a=b)=false):=by
           show _=_
           rw [decide_eq_false_iff_not]
           intro h;subst h;exact g rfl
         rw [e1] at nq
         clear g e1
         go_wp2
         go_quiet (fail)
         go_wp2
         go_ret
         exact ⟨ret_bool HC.out.symm,below_drewN hb _⟩
     · have hkl:k=a.length:=by omega
       have HC:Hid (decide (a=b)=true):=by
         show _=_
         have:=HH.out
         rw [hkl,List.take_length,HLN.out,List.take_length] at this
         rw [this];simp
       go_wp2
       go_ret
       exact ⟨ret_bool HC.out.symm,hb⟩
 · have hne:((a.length:Int) !=(b.length:Int))=true:=by simp;omega
   have HC:Hid (decide (a=b)=false):=by
     show _=_
     rw [decide_eq_false_iff_not]
     intro h;subst h;exact hlen rfl
   clear hlen
   go_enter Seq.func16,Tryz.ntmps16
   go_wp2
   go_ret
   exact ⟨ret_bool HC.out.symm,Below.refl _ _⟩
open Low (DeadAt zqs)
open Lo (Zt)
structure TmBx (w W:World) (g:Gr) (la ea:Option Addr) (lc ec:Nat) (a b:Int) (n:Nat) (xa:Option Addr) (xc:Nat):Prop where
 c0:W.cell? ⟨w.heap.size,0,none⟩=some (.int .i64 g.hor)
 c1:W.cell? ⟨w.heap.size,1,none⟩=some (.slice la g.lives.length lc)
 c2:W.cell? ⟨w.heap.size,2,none⟩=some (.slice ea g.edges.length ec)
 x0:W.cell? ⟨w.heap.size+1,0,none⟩=some (.int .i64 a)
 x1:W.cell? ⟨w.heap.size+1,1,none⟩=some (.int .i64 b)
 x2:W.cell? ⟨w.heap.size+1,2,none⟩=some (.slice xa n xc)
 bel:Below w.heap.size w W
 lt:w.heap.size+1<W.heap.size
theorem TmBx.below {w W W' :World} {g:Gr} {la ea:Option Addr} {lc ec:Nat} {a b:Int} {n:Nat} {xa:Option Addr} {xc:Nat} (h:TmBx w W g la ea lc ec a b n xa xc) (hb:Below W.heap.size W W'):TmBx w W' g la ea lc ec a b n xa xc:=by
 have l:=h.lt
 have e:∀k,W'.cell? ⟨w.heap.size,k,none⟩=W.cell? ⟨w.heap.size,k,none⟩:=fun k=>hb.cell (p:=⟨w.heap.size,k,none⟩) (by show w.heap.size<_;omega)
 have e' :∀k,W'.cell? ⟨w.heap.size+1,k,none⟩=W.cell? ⟨w.heap.size+1,k,none⟩:=fun k=>hb.cell (p:=⟨w.heap.size+1,k,none⟩) l
 exact ⟨(e 0).trans h.c0,(e 1).trans h.c1,(e 2).trans h.c2,(e' 0).trans h.x0,(e' 1).trans h.x1,(e' 2).trans h.x2,h.bel.trans (hb.mono h.bel.size),Nat.lt_of_lt_of_le l hb.size⟩
theorem tmBx_start (w:World) (g:Gr) (la ea:Option Addr) (lc ec:Nat) (a b:Int) (n:Nat) (xa:Option Addr) (xc:Nat) (T T' :TypeId):TmBx w ((w.alloc (.cells #[.int .i64 g.hor,.slice la g.lives.length lc,.slice ea g.edges.length ec] T)).alloc (.cells #[.int .i64 a,.int .i64 b,.slice xa n xc] T')) g la ea lc ec a b n xa xc:=by
 have B:=gbox_start w g la ea lc ec T
 have l:w.heap.size<(w.alloc (.cells #[.int .i64 g.hor,.slice la g.lives.length lc,.slice ea g.edges.length ec] T)).heap.size:=by simp
 have e:=fun k=>(gal (w.alloc (.cells #[.int .i64 g.hor,.slice la g.lives.length lc,.slice ea g.edges.length ec] T)) (.cells #[.int .i64 a,.int .i64 b,.slice xa n xc] T')).cell (p:=⟨w.heap.size,k,none⟩) l
 have s:(w.alloc (.cells #[.int .i64 g.hor,.slice la g.lives.length lc,.slice ea g.edges.length ec] T)).heap.size=w.heap.size+1:=by simp
 refine ⟨(e 0).trans B.c0,(e 1).trans B.c1,(e 2).trans B.c2,?_,?_,?_,ptg (gal w _) (gal _ _),by simp⟩<;>rw [<- s]<;>exact new_cell rfl rfl
theorem two_lit {P:Program} {l:List Oper} {Q:Exit -> Act -> World -> Prop} {md:Region.Mode} {S:World -> Prop} {i j:Nat} {o o' :Oper} {fuel:Nat} {listed:Array Bool} {a:Act} {w:World} (ho:l[i]? =some o) (ho' :l[j]? =some o') (hr:Region.ready md l.toArray listed=[i,j])
   (h:∀K' :Act -> World -> Prop,Shut (∀a w,S w -> (S w -> wpAnyH P md l.toArray Q S fuel (listed.setIfInBounds i true) a w) -> K' a w) -> if Region.wanted o (yielded l.toArray a.tmps)=true then Oper.wp P o a w K' Q else K' (a.put o.dst undef) w)
   (h' :∀K' :Act -> World -> Prop,Shut (∀a w,S w -> (S w -> wpAnyH P md l.toArray Q S fuel (listed.setIfInBounds j true) a w) -> K' a w) -> if Region.wanted o' (yielded l.toArray a.tmps)=true then Oper.wp P o' a w K' Q else K' (a.put o'.dst undef) w):wpAnyH P md l.toArray Q S (fuel+1) listed a w:=
 wpAnyH_ready hr (by simp) (AllReadyH.cons (by simpa using ho) h (AllReadyH.cons (by simpa using ho') h' AllReadyH.nil))
theorem TmBx.low {w W W' :World} {g:Gr} {la ea:Option Addr} {lc ec:Nat} {a b:Int} {n:Nat} {xa:Option Addr} {xc:Nat} (h:TmBx w W g la ea lc ec a b n xa xc) (hb:Below (w.heap.size+2) W W'):TmBx w W' g la ea lc ec a b n xa xc:=by
 have e:∀k,W'.cell? ⟨w.heap.size,k,none⟩=W.cell? ⟨w.heap.size,k,none⟩:=fun k=>hb.cell (p:=⟨w.heap.size,k,none⟩) (by show w.heap.size<_;omega)
 have e' :∀k,W'.cell? ⟨w.heap.size+1,k,none⟩=W.cell? ⟨w.heap.size+1,k,none⟩:=fun k=>hb.cell (p:=⟨w.heap.size+1,k,none⟩) (by show w.heap.size+1<_;omega)
 exact ⟨(e 0).trans h.c0,(e 1).trans h.c1,(e 2).trans h.c2,(e' 0).trans h.x0,(e' 1).trans h.x1,(e' 2).trans h.x2,h.bel.trans (hb.mono (by omega)),Nat.lt_of_lt_of_le h.lt hb.size⟩
theorem oper_append {P:Program} {w:World} {o:Oper} {a:Act} {K:Act -> World -> Prop} {Q:Exit -> Act -> World -> Prop} (s x:Operand) (t:TypeId)
   (ho:o.op= .call {callee:= .builtin .append,args:=#[s,x],argTypes:=#[t,t] })
   (base:Nat) (e:TypeId) (i:TypeInfo) (z:Value) (size bytes:Nat) (ht:P.underlying t=some (.slice e)) (hi:P.info? e=some i) (hz:i.zero=some z)
   (hsize:i.size=size) (hby:i.bytes=bytes) (hzs:z.cells.size=size) (hsz:0<size)
   (v:Value) (n:Nat) (xs:List Value) (hs:a.eval s=v) (hown:w.ownsRow base e size v n xs)
   (ad:Addr) (m c:Nat) (news:List Value) (hx:a.eval x= .slice (some ad) m c) (hl:news.length=m*size) (hnews:∀j u,news[j]? =some u -> w.cell? (ad.add j)=some u) (h1:∀u∈news,u.oneCell' =true)
   (h63:n+m <= maxLen) (hbytes:(n+m)*bytes <= 140737488355328) (hbase:base <= w.heap.size)
   (h:∀v' w',w'.ownsRow base e size v' (n+m) (xs++news) -> w.grownBy w' v.ownBlock -> K (a.put o.dst v') w'):Oper.wp P o a w K Q:=by
 obtain ⟨v',w',hr,h2,h3,h4,h5⟩:=run_append_own_at (P:=P) w base t o.type e i z size bytes ht hi hz hsize hby hzs hsz v n xs hown ad m c news hl hnews h1 h63 hbytes hbase
 unfold Oper.wp execOp
 simp only [ho,resolve,invoke,builtin,Sem.run_bind,Sem.run_pure,Result.andThen_ok,List.map_toArray,List.map_cons,List.map_nil,hs,hx,hr]
 exact h v' w' h2 h3
set_option maxRecDepth 100000 in
set_option maxHeartbeats 2000000 in
theorem topMore_walk (g:Gr) (la ea:Option Addr) (lc ec:Nat) (a b:Int) (x:List Lg) (xa:Option Addr) (xc:Nat) (fr st:Int) (w:World) (hG:GAt w la ea g) (_:g.lives.length <= lc) (_:lc <= 9223372036854775807) (hX:LgAt w xa x) (hxc:x.length <= xc) (hxm:xc <= 9223372036854775807) (hsz:g.edges.length*40 <= 140737488351232):
   Calls Seq.prog 4 #[.agg #[.int .i64 g.hor,.slice la g.lives.length lc,.slice ea g.edges.length ec],.agg #[.int .i64 a,.int .i64 b,.slice xa x.length xc],.int .i64 fr,.int .i64 st] w fun e w' =>(e= .returned (.bool true) /\ Below w.heap.size w w') \/ (¬Zt zqs w.tape /\ ∃ch,e= .panicked ch /\ DeadAt w'):=by
 have B0:=tmBx_start w g la ea lc ec a b x.length xa xc 25 47
 have hrun:=said_any ((w.alloc (.cells #[.int .i64 g.hor,.slice la g.lives.length lc,.slice ea g.edges.length ec] 25)).alloc (.cells #[.int .i64 a,.int .i64 b,.slice xa x.length xc] 47))
 have HB0:=hideg B0
 clear B0
 go_enter Seq.func4,Tryz.ntmps4
 go_wp2_with fail
 refine hrun.mono ?_
 clear hrun
 rintro e w1 ⟨rfl,hb1⟩
 have B1:=HB0.out.below hb1
 have g0:=B1.c0
 have g1:=B1.c1
 have g2:=B1.c2
 have x0:=B1.x0
 have x1:=B1.x1
 have x2:=B1.x2
 clear hb1 HB0
 go_wp2_with fail
 refine Go.wp_region_held (S:=fun w3=>(w3.cell? ⟨w.heap.size,0,none⟩=some (.int .i64 g.hor) /\ w3.cell? ⟨w.heap.size,1,none⟩=some (.slice la g.lives.length lc) /\ w3.cell? ⟨w.heap.size,2,none⟩=some (.slice ea g.edges.length ec) /\ w3.cell? ⟨w.heap.size+1,0,none⟩=some (.int .i64 a) /\ w3.cell? ⟨w.heap.size+1,1,none⟩=some (.int .i64 b) /\ w3.cell? ⟨w.heap.size+1,2,none⟩=some (.slice xa x.length xc))) (by kernel_rfl) ?_
 obtain ⟨w2,hw2⟩:∃y,y=w1.alloc (.cells #[.int .i64 g.hor,.slice la g.lives.length lc,.slice ea g.edges.length ec] 25):=⟨_,rfl⟩
 have hb12:Below w1.heap.size w1 w2:=by rw [hw2];exact gal w1 _
 have hM0:w2.heap[w1.heap.size]? =some (.cells #[.int .i64 g.hor,.slice la g.lives.length lc,.slice ea g.edges.length ec] 25 (0,0)):=by rw [hw2];exact heap_alloc_new w1 _
 have hs2:w2.heap.size=w1.heap.size+1:=by rw [hw2];simp
 rw [<- hw2]
 have B2:=B1.below hb12
 have Hw1:=hideg B1.lt
 clear hw2 g0 g1 g2 x0 x1 x2 B1 hb12
 generalize hw8:({w2 with drawn:=w2.drawn+1 }:World)=w3
 have hb23:Below w2.heap.size w2 w3:=by rw [<- hw8];exact below_drewN (Below.refl _ _) 1
 have hs3:w3.heap.size=w1.heap.size+1:=by rw [<- hw8];exact hs2
 have hM3:w3.heap[w1.heap.size]? =some (.cells #[.int .i64 g.hor,.slice la g.lives.length lc,.slice ea g.edges.length ec] 25 (0,0)):=by rw [<- hw8];exact hM0
 have B3:=B2.below hb23
 have hS3:(w3.cell? ⟨w.heap.size,0,none⟩=some (.int .i64 g.hor) /\ w3.cell? ⟨w.heap.size,1,none⟩=some (.slice la g.lives.length lc) /\ w3.cell? ⟨w.heap.size,2,none⟩=some (.slice ea g.edges.length ec) /\ w3.cell? ⟨w.heap.size+1,0,none⟩=some (.int .i64 a) /\ w3.cell? ⟨w.heap.size+1,1,none⟩=some (.int .i64 b) /\ w3.cell? ⟨w.heap.size+1,2,none⟩=some (.slice xa x.length xc)):=⟨B3.c0,B3.c1,B3.c2,B3.x0,B3.x1,B3.x2⟩
 obtain ⟨L,hL,hEc,hLv⟩:=ecAt_of hG.ed
 have hLl:g.edges.length=L.length:=by rw [<- hL];simp
 have hone:∀p∈L,p.2.oneCell' =true:=fun p hp=>by obtain ⟨la,lc,h,_⟩:=hLv p hp;rw [h];rfl
 have HCl:=hideg (fun W (hb:Below w.heap.size w W)=>cloneE_any ea ec L W (by
   rcases hEc with h | ⟨b',off,e,hlt,hc⟩
   · exact .inl h
   · refine .inr ⟨b',off,e,Nat.lt_of_lt_of_le hlt hb.size,fun j hj=> ?_⟩
     rw [hb.cell (p:=⟨b',off+j*3,none⟩) hlt,hb.cell (p:=⟨b',off+j*3+1,none⟩) hlt,hb.cell (p:=⟨b',off+j*3+2,none⟩) hlt]
     exact hc j hj) hone (by omega))
 rw [<- hLl] at HCl
 have HLl:=hideg hLl
 have HLe:=hideg hL
 have HLv:=hideg hLv
 have HM3:=hideg hM3
 have Hs3:=hideg hs3
 have HB3:=hideg B3
 clear hw8 hb23 hs2 hM0 B2 hEc hone hLl hL hLv hM3 hs3
 refine take_lit (i:=0) (v:= ?_) rfl (by kernel_rfl) (by kernel_rfl) (by kernel_rfl) (fun _ _ _ h=>h) (Or.inl ⟨by rfl,?hy0⟩) (by assumption) ?_
 case hy0=>(intro w hSw;(try dsimp only at hSw);go_simp;try with_reducible rfl)
 try simp only [Act.put,List.setIfInBounds_toArray,List.set_cons_zero,List.set_cons_succ]
 refine take_lit (i:=1) (v:= ?_) rfl (by kernel_rfl) (by kernel_rfl) (by kernel_rfl) (fun _ _ _ h=>h) (Or.inl ⟨by rfl,?hy1⟩) (by assumption) ?_
 case hy1=>(intro w hSw;(try dsimp only at hSw);go_simp;try with_reducible rfl)
 try simp only [Act.put,List.setIfInBounds_toArray,List.set_cons_zero,List.set_cons_succ]
 refine take_lit (i:=3) (v:= ?_) rfl (by kernel_rfl) (by kernel_rfl) (by kernel_rfl) (fun _ _ _ h=>h) (Or.inl ⟨by rfl,?hy3⟩) (by assumption) ?_
 case hy3=>(intro w hSw;(try dsimp only at hSw);go_simp;try with_reducible rfl)
 try simp only [Act.put,List.setIfInBounds_toArray,List.set_cons_zero,List.set_cons_succ]
 refine two_lit (i:=2) (j:=4) rfl rfl (by kernel_rfl) (fun K hK=> ?cloneFirst) (fun K hK=> ?buildFirst)
 case' cloneFirst=>
   go_simp
   refine (HCl.out w3 HB3.out.bel).mono ?_
   rintro e w4 ⟨v4,rfl,ho4,hb4⟩
   have B4:=B3.below hb4
   have hS4:(w4.cell? ⟨w.heap.size,0,none⟩=some (.int .i64 g.hor) /\ w4.cell? ⟨w.heap.size,1,none⟩=some (.slice la g.lives.length lc) /\ w4.cell? ⟨w.heap.size,2,none⟩=some (.slice ea g.edges.length ec) /\ w4.cell? ⟨w.heap.size+1,0,none⟩=some (.int .i64 a) /\ w4.cell? ⟨w.heap.size+1,1,none⟩=some (.int .i64 b) /\ w4.cell? ⟨w.heap.size+1,2,none⟩=some (.slice xa x.length xc)):=⟨B4.c0,B4.c1,B4.c2,B4.x0,B4.x1,B4.x2⟩
   refine hK.out _ _ hS4 (fun _=> ?_)
   clear hK K
   try simp only [Act.put,List.setIfInBounds_toArray,List.set_cons_zero,List.set_cons_succ]
   refine next_lit (i:=4) rfl (by kernel_rfl) (fun K hK=> ?_)
   go_simp
   obtain ⟨w5,hw5⟩:∃y,y=w4.alloc (.cells #[.int .i64 a,.int .i64 b,.slice xa x.length xc] 47):=⟨_,rfl⟩
   have hb5:Below w4.heap.size w4 w5:=by rw [hw5];exact gal w4 _
   have B5:=B4.below hb5
   have hS5:(w5.cell? ⟨w.heap.size,0,none⟩=some (.int .i64 g.hor) /\ w5.cell? ⟨w.heap.size,1,none⟩=some (.slice la g.lives.length lc) /\ w5.cell? ⟨w.heap.size,2,none⟩=some (.slice ea g.edges.length ec) /\ w5.cell? ⟨w.heap.size+1,0,none⟩=some (.int .i64 a) /\ w5.cell? ⟨w.heap.size+1,1,none⟩=some (.int .i64 b) /\ w5.cell? ⟨w.heap.size+1,2,none⟩=some (.slice xa x.length xc)):=⟨B5.c0,B5.c1,B5.c2,B5.x0,B5.x1,B5.x2⟩
   have hN5:w5.heap[w4.heap.size]? =some (.cells #[.int .i64 a,.int .i64 b,.slice xa x.length xc] 47 (0,0)):=by rw [hw5];exact heap_alloc_new w4 _
   rw [<- hw5]
   refine hK.out _ _ hS5 (fun _=> ?_)
   clear hK K
   try simp only [Act.put,List.setIfInBounds_toArray,List.set_cons_zero,List.set_cons_succ]
   have hm34:=hb4
   have hM5:w5.heap[w1.heap.size]? =some (.cells #[.int .i64 g.hor,.slice la g.lives.length lc,.slice ea g.edges.length ec] 25 (0,0)):=by
     rw [hb5.block _ (by have:=hb4.size;have:=Hs3.out;omega),hb4.block _ (by have:=Hs3.out;omega)];exact HM3.out
   obtain ⟨base,hbase⟩:∃y,y=w3.heap.size:=⟨_,rfl⟩
   have ho5:=ownsRow_below ho4 hb5
   rw [<- hbase] at ho5
   obtain ⟨BS,hBS⟩:∃y,y=w4.heap.size:=⟨_,rfl⟩
   have hBne:v4.ownBlock≠some BS:=fun e=>by have:=(ho4.lt BS e).2;omega
   rw [<- hBS] at hN5 ⊢
   have hMb:w1.heap.size<base /\ base <= w5.heap.size:=by have:=hb4.size;have:=hb5.size;have:=Hs3.out;omega
   have b35:Below w3.heap.size w3 w5:=ptg hb4 hb5
   clear hbase hBS ho4 hb4 hb5 B4 hS4 hw5 hm34 hS3 B3
 case' buildFirst=>
   go_simp
   obtain ⟨w4,hw4⟩:∃y,y=w3.alloc (.cells #[.int .i64 a,.int .i64 b,.slice xa x.length xc] 47):=⟨_,rfl⟩
   have hb4:Below w3.heap.size w3 w4:=by rw [hw4];exact gal w3 _
   have B4:=B3.below hb4
   have hS4:(w4.cell? ⟨w.heap.size,0,none⟩=some (.int .i64 g.hor) /\ w4.cell? ⟨w.heap.size,1,none⟩=some (.slice la g.lives.length lc) /\ w4.cell? ⟨w.heap.size,2,none⟩=some (.slice ea g.edges.length ec) /\ w4.cell? ⟨w.heap.size+1,0,none⟩=some (.int .i64 a) /\ w4.cell? ⟨w.heap.size+1,1,none⟩=some (.int .i64 b) /\ w4.cell? ⟨w.heap.size+1,2,none⟩=some (.slice xa x.length xc)):=⟨B4.c0,B4.c1,B4.c2,B4.x0,B4.x1,B4.x2⟩
   have hN4:w4.heap[w3.heap.size]? =some (.cells #[.int .i64 a,.int .i64 b,.slice xa x.length xc] 47 (0,0)):=by rw [hw4];exact heap_alloc_new w3 _
   have hs4:w4.heap.size=w3.heap.size+1:=by rw [hw4];simp
   rw [<- hw4]
   refine hK.out _ _ hS4 (fun _=> ?_)
   clear hK K hw4
   try simp only [Act.put,List.setIfInBounds_toArray,List.set_cons_zero,List.set_cons_succ]
   refine next_lit (i:=2) rfl (by kernel_rfl) (fun K hK=> ?_)
   go_simp
   refine (HCl.out w4 (HB3.out.below hb4).bel).mono ?_
   rintro e w5 ⟨v4,rfl,ho5',hb5⟩
   have B5:=B4.below hb5
   have hS5:(w5.cell? ⟨w.heap.size,0,none⟩=some (.int .i64 g.hor) /\ w5.cell? ⟨w.heap.size,1,none⟩=some (.slice la g.lives.length lc) /\ w5.cell? ⟨w.heap.size,2,none⟩=some (.slice ea g.edges.length ec) /\ w5.cell? ⟨w.heap.size+1,0,none⟩=some (.int .i64 a) /\ w5.cell? ⟨w.heap.size+1,1,none⟩=some (.int .i64 b) /\ w5.cell? ⟨w.heap.size+1,2,none⟩=some (.slice xa x.length xc)):=⟨B5.c0,B5.c1,B5.c2,B5.x0,B5.x1,B5.x2⟩
   refine hK.out _ _ hS5 (fun _=> ?_)
   clear hK K
   try simp only [Act.put,List.setIfInBounds_toArray,List.set_cons_zero,List.set_cons_succ]
   have hM5:w5.heap[w1.heap.size]? =some (.cells #[.int .i64 g.hor,.slice la g.lives.length lc,.slice ea g.edges.length ec] 25 (0,0)):=by
     rw [hb5.block _ (by have:=hb4.size;have:=Hs3.out;omega),hb4.block _ (by have:=Hs3.out;omega)];exact HM3.out
   obtain ⟨base,hbase⟩:∃y,y=w4.heap.size:=⟨_,rfl⟩
   have ho5:=ho5'
   rw [<- hbase] at ho5
   obtain ⟨BS,hBS⟩:∃y,y=w3.heap.size:=⟨_,rfl⟩
   have hBne:v4.ownBlock≠some BS:=fun e=>by have:=(ho5'.lt BS e).1;omega
   have hN5:w5.heap[BS]? =some (.cells #[.int .i64 a,.int .i64 b,.slice xa x.length xc] 47 (0,0)):=by rw [hBS,hb5.block _ (by omega)];exact hN4
   rw [<- hBS]
   have hMb:w1.heap.size<base /\ base <= w5.heap.size:=by have:=hb4.size;have:=hb5.size;have:=Hs3.out;omega
   have b35:Below w3.heap.size w3 w5:=ptg hb4 hb5
   clear hbase hBS ho5' hb4 hb5 B4 hS4 hN4 hs4 hS3 B3
 all_goals
   obtain ⟨ie,hie,hiz,his,hib⟩:=info_parts Tryz.infoEdge
   refine next_lit (i:=5) rfl (by kernel_rfl) (fun K hK=> ?_)
   rw [if_pos (show Region.wanted _ _=true from rfl)]
   have hw1s:=Hw1.out
   refine oper_append (.tmp 30) (.tmp 32) 23 rfl base 47 ie (.agg #[.int .i64 0,.int .i64 0,.slice none 0 0]) 3 40 ((Seq.pu 23).trans Tryz.underlying23) hie hiz his hib rfl (by decide) v4 g.edges.length (encE L) rfl ho5 ⟨BS,0,none⟩ 1 1 [.int .i64 a,.int .i64 b,.slice xa x.length xc] rfl rfl (fun j u hu=> ?_) (fun u hu=> ?_) (by unfold maxLen;omega) (by omega) hMb.2 (fun v6 w6 ho6 hg6=> ?_)
   · rw [Go.WideShapes.add_plain,Nat.zero_add,cell_of_row _ BS j _ _ (0,0) hN5]
     simpa using hu
   · simp only [List.mem_cons,List.not_mem_nil,or_false] at hu
     rcases hu with rfl | rfl | rfl<;>rfl
   have hb56:Below (w1.heap.size+1) w5 w6:=(Below.refl _ w5).grown hg6 (by omega) (fun k hk=>by have:=(ho5.lt k hk).1;omega)
   have B6:=B5.low (hb56.mono (by omega))
   have hM6:=(hb56.block w1.heap.size (by omega)).trans hM5
   have hS6:(w6.cell? ⟨w.heap.size,0,none⟩=some (.int .i64 g.hor) /\ w6.cell? ⟨w.heap.size,1,none⟩=some (.slice la g.lives.length lc) /\ w6.cell? ⟨w.heap.size,2,none⟩=some (.slice ea g.edges.length ec) /\ w6.cell? ⟨w.heap.size+1,0,none⟩=some (.int .i64 a) /\ w6.cell? ⟨w.heap.size+1,1,none⟩=some (.int .i64 b) /\ w6.cell? ⟨w.heap.size+1,2,none⟩=some (.slice xa x.length xc)):=⟨B6.c0,B6.c1,B6.c2,B6.x0,B6.x1,B6.x2⟩
   have HLg:Hid (∀p∈L,LvAt w6 p):=fun p hp=>by
     obtain ⟨la',lc',h1,h2,h3⟩:=HLv.out p hp
     exact ⟨la',lc',h1,h2.below B6.bel,h3⟩
   obtain ⟨eo,co,rfl,hco,hcm⟩:=row_form ho6
   have hMne:(Value.slice eo (g.edges.length+1) co).ownBlock≠some w1.heap.size:=fun e=>by have:=(ho6.lt _ e).1;omega
   refine hK.out _ _ hS6 (fun _=> ?_)
   clear hK K hS5 B5 hb56 hM5 hg6 ho5 hBne hN5 hie hiz his hib b35
   try simp only [Act.put,List.setIfInBounds_toArray,List.set_cons_zero,List.set_cons_succ]
   refine take_lit (i:=6) (v:= ?_) rfl (by kernel_rfl) (by kernel_rfl) (by kernel_rfl) (fun _ _ _ h=>h) (Or.inl ⟨by rfl,?hy6⟩) (by assumption) ?_
   case hy6=>(intro w hSw;(try dsimp only at hSw);go_simp;try with_reducible rfl)
   try simp only [Act.put,List.setIfInBounds_toArray,List.set_cons_zero,List.set_cons_succ]
   refine next_lit (i:=7) rfl (by kernel_rfl) (fun K hK=> ?_)
   have c2:=cell_of_row w6 w1.heap.size 2 _ _ (0,0) hM6
   have f0:=fun j=>frozen_of_row w6 w1.heap.size j _ _ hM6
   simp only [List.getElem?_toArray,List.getElem?_cons_zero,List.getElem?_cons_succ] at c2
   go_simp
   obtain ⟨w7,hw7⟩:∃y,y=w6.setCell ⟨w1.heap.size,2,none⟩ (.slice eo (g.edges.length+1) co):=⟨_,rfl⟩
   have B7:TmBx w w7 g la ea lc ec a b x.length xa xc:=by rw [hw7];exact B6.low ((Below.refl _ w6).setCell (p:=⟨w1.heap.size,2,none⟩) (by show _ <= w1.heap.size;omega) _)
   have hM7:w7.heap[w1.heap.size]? =some (.cells #[.int .i64 g.hor,.slice la g.lives.length lc,.slice eo (g.edges.length+1) co] 25 (0,0)):=by rw [hw7];exact heap_setCell_same _ _ _ _ _ _ hM6
   have hEd:EdAt w7 eo (g.edges++[(a,b,x)]):=by
     have ho7:w7.ownsRow base 47 3 (.slice eo (g.edges.length+1) co) (g.edges.length+1) (encE (L++[((a,b,x),.slice xa x.length xc)])):=by
       rw [hw7,encE_append]
       exact row_set ho6 hMne
     obtain ⟨eo',co',e1,h⟩:=edAt_of ho7 (fun p hp=>by
       rcases List.mem_append.1 hp with hp | hp
       · obtain ⟨la',lc',h1,h2,h3⟩:=HLv.out p hp
         exact ⟨la',lc',h1,h2.below B7.bel,h3⟩
       · rw [List.mem_singleton] at hp
         subst hp
         exact ⟨xa,xc,rfl,hX.below B7.bel,hxc,hxm⟩)
     simp only [Value.slice.injEq] at e1
     rw [<- e1.1] at h
     rw [List.map_append,HLe.out] at h
     exact h
   have hS7:(w7.cell? ⟨w.heap.size,0,none⟩=some (.int .i64 g.hor) /\ w7.cell? ⟨w.heap.size,1,none⟩=some (.slice la g.lives.length lc) /\ w7.cell? ⟨w.heap.size,2,none⟩=some (.slice ea g.edges.length ec) /\ w7.cell? ⟨w.heap.size+1,0,none⟩=some (.int .i64 a) /\ w7.cell? ⟨w.heap.size+1,1,none⟩=some (.int .i64 b) /\ w7.cell? ⟨w.heap.size+1,2,none⟩=some (.slice xa x.length xc)):=⟨B7.c0,B7.c1,B7.c2,B7.x0,B7.x1,B7.x2⟩
   rw [<- hw7]
   refine hK.out _ _ hS7 (fun _=> ?_)
   clear hK K c2 f0 hS6 hS7 hw7 hM6 B6 ho6 hMne HLg
   try simp only [Act.put,List.setIfInBounds_toArray,List.set_cons_zero,List.set_cons_succ]
   refine wpAnyH_done (by kernel_rfl) ?_ _
   obtain ⟨M,hMe⟩:∃y,y=w1.heap.size:=⟨_,rfl⟩
   rw [<- hMe] at hM7 ⊢
   have HMc:Hid (∀W,Below w7.heap.size w7 W -> (W.cell? ⟨M,0,none⟩=some (.int .i64 g.hor) /\ W.cell? ⟨M,1,none⟩=some (.slice la g.lives.length lc) /\ W.cell? ⟨M,2,none⟩=some (.slice eo (g.edges.length+1) co))):=fun W hb=>by
     have h:=(hb.block M (Array.getElem?_eq_some_iff.1 hM7).1).trans hM7
     exact ⟨cell_of_row W M 0 _ _ (0,0) h,cell_of_row W M 1 _ _ (0,0) h,cell_of_row W M 2 _ _ (0,0) h⟩
   obtain ⟨m,hm⟩:∃y,y=plusE g (a,b,x):=⟨_,rfl⟩
   have hml:m.edges.length=g.edges.length+1:=by rw [hm];simp [plusE]
   have hGm:GAt w7 la eo m:=by
     rw [hm]
     exact ⟨hG.lv.below B7.bel,hEd,hG.nl,by rw [<- hm,hml];omega⟩
   have HGm:=hideg hGm
   have HG:=hideg hG
   have Hm:Hid (m.hor=g.hor /\ m.lives=g.lives /\ m.edges.length=g.edges.length+1 /\ m=plusE g (a,b,x)):=by
     show _ /\ _
     rw [hml,hm]
     exact ⟨rfl,rfl,rfl,rfl⟩
   have hA1:=eArr_any g la ea lc ec fr st w7 (hG.below B7.bel)
   have HA2:Hid (∀W,Below w7.heap.size w7 W -> Calls Seq.prog 13 #[.agg #[.int .i64 g.hor,.slice la g.lives.length lc,.slice eo (g.edges.length+1) co],.int .i64 fr,.int .i64 st] W fun r w' =>∃u,r= .returned (.tuple #[u,.int .i64 (placeE m fr st)]) /\ w'.ownsRow W.heap.size 3 1 u (arrA m fr st).length ((arrA m fr st).map (Value.int .i64)) /\ Below W.heap.size W w'):=fun W hb=>by
     have h:=eArr_any m la eo lc co fr st W (HGm.out.below hb)
     rw [Hm.out.1,Hm.out.2.1,Hm.out.2.2.1] at h
     exact h
   have HB7:=hideg B7
   have g0:=B7.c0
   have g1:=B7.c1
   have g2:=B7.c2
   clear hml hm hGm hG hEd hM7 hMe B7 hX hxc hxm hsz hco hcm HLl HLe HLv HM3 Hs3 HB3 Hw1 HCl hw1s
   go_wp2_with fail
   refine hA1.mono ?_
   clear hA1
   rintro e w8 ⟨u1,rfl,ho1,hb8⟩
   obtain ⟨m0,m1,m2⟩:=HMc.out w8 hb8
   have hA2:=HA2.out w8 hb8
   clear HA2 g0 g1 g2
   go_wp2_with fail
   refine hA2.mono ?_
   clear hA2 m0 m1 m2
   rintro e w9 ⟨u2,rfl,ho2,hb9⟩
   have ho1:=ownsRow_below ho1 hb9
   have hb79:=ptg hb8 hb9
   have B9:=HB7.out.below hb79
   by_cases e1:placeE g fr st=0
   case neg=>
     have d1:(placeE g fr st !=0)=true:=by simpa using e1
     have HF:=hideg B9.bel
     clear B9 hb79 hb8 hb9 ho1 ho2
     generalize placeE g fr st=z1 at*
     generalize placeE m fr st=z2 at*
     go_wp2
     go_ret
     exact .inl ⟨rfl,HF.out⟩
   by_cases e2:placeE m fr st=0
   case neg=>
     rw [e1]
     have d1:(placeE m fr st !=0)=true:=by simpa using e2
     have HF:=hideg B9.bel
     clear B9 hb79 hb8 hb9 ho1 ho2
     generalize placeE m fr st=z2 at*
     go_wp2
     go_ret
     exact .inl ⟨rfl,HF.out⟩
   obtain ⟨c1,⟨fr0,fr1⟩,_⟩:=placeE_zero e1
   obtain ⟨c2,_,_⟩:=placeE_zero e2
   have R1:=gChk_right c1
   have R2:=gChk_right c2
   have hor:=R1.hor
   have hl12:=R1.lvs
   have ask:∀y:Gr,gChk y=0 -> y.lives=g.lives -> askE y ((2:Nat):Int) fr=0:=fun y hy hl=>by
     unfold askE
     rw [if_pos hy,if_pos ((inR_iff _ _ _).2 (by omega)),if_neg (by omega),if_pos ((inR_iff _ _ _).2 (by rw [hl];omega))]
   have hC1:=cCosts_any g la ea lc ec fr st w9 (HG.out.below B9.bel)
   have HC2:Hid (∀W,Below w7.heap.size w7 W -> Calls Seq.prog 14 #[.agg #[.int .i64 g.hor,.slice la g.lives.length lc,.slice eo (g.edges.length+1) co],.int .i64 fr,.int .i64 st] W fun r w' =>∃u L,r= .returned (.tuple #[u,.int .i64 0]) /\ LeastIs m prCost fr st L /\ w'.ownsRow W.heap.size 3 1 u L.length (L.map (Value.int .i64)) /\ Below W.heap.size W w'):=fun W hb=>by
     have h:=cCosts_any m la eo lc co fr st W (HGm.out.below hb)
     rw [Hm.out.1,Hm.out.2.1,Hm.out.2.2.1,e2] at h
     refine h.mono ?_
     rintro e w' ⟨u,L,rfl,hL,ho,hb'⟩
     exact ⟨u,L,rfl,(hL.resolve_left (fun h=>h.1 e2)).2,ho,hb'⟩
   have HR1:Hid (∀W,Below w.heap.size w W -> Calls Seq.prog 6 #[.agg #[.int .i64 g.hor,.slice la g.lives.length lc,.slice ea g.edges.length ec],.int .i64 2,.int .i64 fr] W fun e w' =>(∃go val T r,e= .returned (.tuple #[.slice (some ⟨go,0,none⟩) g.lives.length g.lives.length,.int .i64 r,.int .i64 0]) /\ AM w' W.heap.size go g.lives.length val T /\ (∀v,v<g.lives.length -> T v=allP g 2 fr v g.hor.toNat) /\ Below W.heap.size W w') \/ (¬Zt zqs W.tape /\ ∃ch,e= .panicked ch /\ DeadAt w')):=fun W hb=>(bsRun_ok g la ea lc ec 2 fr W (HG.out.below hb) (ask g c1 rfl) c1 (bsPaths_any g la ea lc ec 2 c1 (.inr (.inl rfl)))).mono fun e w' h=>h.imp (fun ⟨go,val,T,r,h1,h2,h3,_,h5⟩=>⟨go,val,T,r,h1,h2,h3,h5⟩) id
   have HR2:Hid (∀W,Below w7.heap.size w7 W -> Calls Seq.prog 6 #[.agg #[.int .i64 g.hor,.slice la g.lives.length lc,.slice eo (g.edges.length+1) co],.int .i64 2,.int .i64 fr] W fun e w' =>(∃go val T r,e= .returned (.tuple #[.slice (some ⟨go,0,none⟩) g.lives.length g.lives.length,.int .i64 r,.int .i64 0]) /\ AM w' W.heap.size go g.lives.length val T /\ (∀v,v<g.lives.length -> T v=allP m 2 fr v g.hor.toNat) /\ Below W.heap.size W w') \/ (¬Zt zqs W.tape /\ ∃ch,e= .panicked ch /\ DeadAt w')):=fun W hb=>by
     have h:=bsRun_ok m la eo lc co 2 fr W (HGm.out.below hb) (ask m c2 Hm.out.2.1) c2 (bsPaths_any m la eo lc co 2 c2 (.inr (.inl rfl)))
     rw [Hm.out.1,Hm.out.2.1,Hm.out.2.2.1] at h
     exact h.mono fun e w' h=>h.imp (fun ⟨go,val,T,r,h1,h2,h3,_,h5⟩=>⟨go,val,T,r,h1,h2,h3,h5⟩) id
   have HAr:Hid ((arrA g fr st).length=g.lives.length /\ (arrA m fr st).length=g.lives.length /\ ∀k,k<g.lives.length -> (arrA m fr st).getD k 0 <= (arrA g fr st).getD k 0):=by
     have h1:arrA g fr st=(erF g fr st).1:=by unfold arrA;rw [if_pos e1]
     have h2:arrA m fr st=(erF m fr st).1:=by unfold arrA;rw [if_pos e2]
     refine ⟨by rw [h1];exact (erF_len g fr st).1,by rw [h2,(erF_len m fr st).1,Hm.out.2.1],fun k hk=> ?_⟩
     rw [h1,h2]
     rw [Hm.out.2.2.2] at R2 ⊢
     exact arr_more R1 R2 fr0 k hk
   have HCo:Hid (∀L3 L4,LeastIs g prCost fr st L3 -> LeastIs m prCost fr st L4 -> L3.length=g.lives.length /\ L4.length=g.lives.length /\ ∀k,k<g.lives.length -> L4.getD k 0 <= L3.getD k 0):=fun L3 L4 h3 h4=>by
     refine ⟨h3.len,by rw [h4.len,Hm.out.2.1],fun k hk=> ?_⟩
     rw [Hm.out.2.2.2] at R2 h4
     exact costs_more R2 fr0 h3 h4 k hk
   have HMp:Hid (∀k,k<g.lives.length -> Sm 400000 (allP g 2 fr k g.hor.toNat) /\ Sm 400000 (allP m 2 fr k g.hor.toNat) /\ ∀r,Sm 400000 r -> (∀t,tel r t=mrg 1 (tel (allP g 2 fr k g.hor.toNat) t) (tel (allP m 2 fr k g.hor.toNat) t)) -> r=allP m 2 fr k g.hor.toNat):=fun k hk=>by
     have h2:=sm_allP c2 fr (k:=k) (by rw [Hm.out.2.1];exact hk)
     rw [Hm.out.1] at h2
     refine ⟨sm_allP c1 fr hk,h2,fun r hr ht=> ?_⟩
     rw [Hm.out.2.2.2] at ht c2 ⊢
     exact maps_more c1 c2 fr hk hr ht
   have Hh:=hideg hl12
   have hC1' :Calls Seq.prog 14 #[.agg #[.int .i64 g.hor,.slice la g.lives.length lc,.slice ea g.edges.length ec],.int .i64 fr,.int .i64 st] w9 fun r w' =>∃u L,r= .returned (.tuple #[u,.int .i64 0]) /\ LeastIs g prCost fr st L /\ w'.ownsRow w9.heap.size 3 1 u L.length (L.map (Value.int .i64)) /\ Below w9.heap.size w9 w':=by
     rw [e1] at hC1
     refine hC1.mono ?_
     rintro e w' ⟨u,L,rfl,hL,ho,hb'⟩
     exact ⟨u,L,rfl,(hL.resolve_left (fun h=>h.1 e1)).2,ho,hb'⟩
   rw [e1,e2]
   have g0:=B9.c0
   have g1:=B9.c1
   have g2:=B9.c2
   have HB9:=hideg B9
   obtain ⟨ao1,ac1,rfl,z1⟩:=zsAt_of_owns ho1
   obtain ⟨ao2,ac2,rfl,z2⟩:=zsAt_of_owns ho2
   have Hz1:=hideg z1
   have Hz2:=hideg z2
   rw [HAr.out.1,HAr.out.2.1]
   clear c1 c2 fr0 fr1 R1 R2 hor hl12 ask hC1 e1 e2 B9 ho1 ho2 hb8 hb9 z1 z2 HGm HG Hm
   generalize arrA g fr st=X1 at*
   generalize arrA m fr st=X2 at*
   go_wp2_with fail
   refine hC1'.mono ?_
   clear hC1'
   rintro e w10 ⟨u3,L3,rfl,hL3,ho3,hb10⟩
   have hb710:=ptg hb79 hb10
   obtain ⟨m0,m1,m2⟩:=HMc.out w10 hb710
   have hC2:=HC2.out w10 hb710
   clear HC2 g0 g1 g2
   go_wp2_with fail
   refine hC2.mono ?_
   clear hC2 m0 m1 m2
   rintro e w11 ⟨u4,L4,rfl,hL4,ho4,hb11⟩
   have B11:=(HB9.out.below hb10).below hb11
   have g0:=B11.c0
   have g1:=B11.c1
   have g2:=B11.c2
   have hR1:=HR1.out w11 B11.bel
   have HCo2:=hideg (HCo.out L3 L4 hL3 hL4)
   clear HR1 hL3 hL4 HCo
   go_wp2_with fail
   refine hR1.mono ?_
   clear hR1
   rintro e w12 (⟨go1,val1,T1,r1,rfl,AM1,hT1,hb12⟩ | ⟨hz,ch,rfl,hd⟩)
   case inr=>exact ⟨rfl,.inr ⟨fun h=>hz (by rw [B11.bel.tape];exact h),ch,rfl,hd⟩⟩
   have hb711:=ptg hb710 hb11
   have hb712:=ptg hb711 hb12
   obtain ⟨m0,m1,m2⟩:=HMc.out w12 hb712
   have hR2:=HR2.out w12 hb712
   have HT1:=hideg hT1
   have B12:=B11.below hb12
   have htp:=B12.bel.tape
   clear HR2 g0 g1 g2 B11 hT1
   go_wp2_with fail
   refine hR2.mono ?_
   clear hR2 m0 m1 m2
   rintro e w13 (⟨go2,val2,T2,r2,rfl,AM2,hT2,hb13⟩ | ⟨hz,ch,rfl,hd⟩)
   case inr=>exact ⟨rfl,.inr ⟨fun h=>hz (by rw [htp];exact h),ch,rfl,hd⟩⟩
   have HT2:=hideg hT2
   have HB13:=hideg (B12.below hb13).bel
   have HA1:=hideg (AM1.below hb13)
   have HA2:=hideg AM2
   have HZ1:=hideg (((((Hz1.out.below hb10).below hb11).below hb12).below hb13))
   have HZ2:=hideg (((((Hz2.out.below hb10).below hb11).below hb12).below hb13))
   obtain ⟨ao3,ac3,rfl,z3⟩:=zsAt_of_owns ho3
   obtain ⟨ao4,ac4,rfl,z4⟩:=zsAt_of_owns ho4
   have HZ3:=hideg (((z3.below hb11).below hb12).below hb13)
   have HZ4:=hideg ((z4.below hb12).below hb13)
   clear hT2 B12 AM1 AM2 z3 z4 ho3 ho4 hb10 hb11 hb12 hb13 hb710 hb711 hb712 htp Hz1 Hz2
   go_wp2_with fail
   go_loopw [99] (fun i wr=>∃k:Nat,k <= g.lives.length /\ i= .int .i64 (k:Int) /\ Below w13.heap.size w13 wr) (fun i _=>g.lives.length-(intOf i).toNat)
   case atStart=>exact ⟨0,Nat.zero_le _,rfl,Below.refl _ _⟩
   case round=>
     obtain ⟨k,hk,rfl,hb⟩:=hrel
     by_cases hkl:k<g.lives.length
     · have hki:(k:Int)<(g.lives.length:Int):=by omega
       have hkw:IntKind.i64.wrap ((k:Int)+1)=(k:Int)+1:=wrap_nr _ (by omega) (by have:=Hh.out;omega)
       have l1:=HAr.out.1
       have l2:=HAr.out.2.1
       have k3:k<L3.length:=by rw [HCo2.out.1];exact hkl
       have k4:k<L4.length:=by rw [HCo2.out.2.1];exact hkl
       have dA:decide (X1.getD k 0<X2.getD k 0)=false:=decide_eq_false (by have:=HAr.out.2.2 k hkl;omega)
       have dB:decide (L3[k]<L4[k])=false:=by
         have h:=HCo2.out.2.2 k hkl
         simp only [List.getD_eq_getElem?_getD,List.getElem?_eq_getElem k3,List.getElem?_eq_getElem k4,Option.getD_some] at h
         exact decide_eq_false (by omega)
       rcases HZ1.out.below hb with h0 | ⟨b1,f1,rfl,_,q1⟩
       · rw [h0] at l1;simp at l1;omega
       rcases HZ2.out.below hb with h0 | ⟨b2,f2,rfl,_,q2⟩
       · rw [h0] at l2;simp at l2;omega
       rcases HZ3.out.below hb with h0 | ⟨b3,f3,rfl,_,q3⟩
       · rw [h0] at k3;simp at k3
       rcases HZ4.out.below hb with h0 | ⟨b4,f4,rfl,_,q4⟩
       · rw [h0] at k4;simp at k4
       have q1:=q1 k (by rw [l1];exact hkl)
       have q2:=q2 k (by rw [l2];exact hkl)
       have q3:=q3 k k3
       have q4:=q4 k k4
       generalize X1.getD k 0=y1 at*
       generalize X2.getD k 0=y2 at*
       have Hb:=hideg hb
       clear l1 l2 hb
       go_wp2_with fail
       go_region
       obtain ⟨w14,hw14⟩:∃y,y=wr.drew:=⟨_,rfl⟩
       have hb14:Below w13.heap.size w13 w14:=by rw [hw14];exact Hb.out.drew
       rw [<- hw14]
       clear hw14 q1 q2 q3 q4
       have A1:=HA1.out.below hb14
       have A2:=HA2.out.below hb14
       obtain ⟨p1,n1,e1,s1⟩:=pcAt_of_owns (A1.inn k hkl)
       obtain ⟨p2,n2,e2,s2⟩:=pcAt_of_owns (A2.inn k hkl)
       have x1:=A1.out hkl
       have x2:=A2.out hkl
       rw [e1] at x1
       rw [e2] at x2
       have HAfter:Hid (∀W,Below w14.heap.size w14 W -> (W.cell? ⟨go1,k,none⟩=some (.slice p1 (T1 k).length n1) /\ W.cell? ⟨go2,k,none⟩=some (.slice p2 (T2 k).length n2))):=fun W h=>⟨(h.cell (p:=⟨go1,k,none⟩) (World.ownsRow.lt A1.own go1 rfl).2).trans x1,(h.cell (p:=⟨go2,k,none⟩) (World.ownsRow.lt A2.own go2 rfl).2).trans x2⟩
       obtain ⟨sm1,sm2,hmx⟩:=HMp.out k hkl
       rw [<- HT1.out k hkl] at sm1 hmx
       rw [<- HT2.out k hkl] at sm2 hmx
       have HMg:Hid (∀W,Below w14.heap.size w14 W -> Calls Seq.prog 15 #[.slice p1 (T1 k).length n1,.slice p2 (T2 k).length n2,.int .i64 1] W fun e w' =>∃v,e= .returned (.tuple #[v,.int .i64 0]) /\ w'.ownsRow W.heap.size 54 3 v (T2 k).length (enc3 (T2 k)) /\ Below W.heap.size W w'):=fun W hb=>by
         refine (Merge_any 1 p1 p2 n1 n2 (T1 k) (T2 k) W (s1.below hb) (s2.below hb)).mono ?_
         rintro e w' ⟨m',r,hO,v,rfl,ho,hb'⟩
         obtain ⟨rfl,h2,h3⟩:=sm_merge sm1 sm2 (by omega) hO
         have er:=hmx r h2 h3
         subst er
         exact ⟨v,rfl,ho,hb'⟩
       have Hs2:=hideg s2
       have Hln:Hid ((T2 k).length <= 101):=sm2.len (by omega)
       have Hb14:=hideg hb14
       clear A1 A2 e1 e2 s1 s2 x1 x2 sm1 sm2 hmx hb14
       go_wp2_with fail
       clear dA dB
       refine Go.wp_region_held (S:=fun w3=>w3.cell? ⟨go1,k,none⟩=some (.slice p1 (T1 k).length n1) /\ w3.cell? ⟨go2,k,none⟩=some (.slice p2 (T2 k).length n2)) (by kernel_rfl) ?_
       obtain ⟨w15,hw15⟩:∃y,y=({w14 with drawn:=w14.drawn+1 }:World):=⟨_,rfl⟩
       rw [<- hw15]
       have hb15:Below w14.heap.size w14 w15:=by rw [hw15];exact below_drewN (Below.refl _ _) 1
       have hS15:=HAfter.out w15 hb15
       clear hw15
       generalize (T1 k).length=t1 at*
       refine take_lit (i:=0) (v:= ?_) rfl (by kernel_rfl) (by kernel_rfl) (by kernel_rfl) (fun _ _ _ h=>h) (Or.inl ⟨by rfl,?hy0⟩) (by assumption) ?_
       case hy0=>(intro w hSw;(try dsimp only at hSw);go_simp;try with_reducible rfl)
       try simp only [Act.put,List.setIfInBounds_toArray,List.set_cons_zero,List.set_cons_succ]
       refine take_lit (i:=1) (v:= ?_) rfl (by kernel_rfl) (by kernel_rfl) (by kernel_rfl) (fun _ _ _ h=>h) (Or.inl ⟨by rfl,?hy1⟩) (by assumption) ?_
       case hy1=>(intro w hSw;(try dsimp only at hSw);go_simp;try with_reducible rfl)
       try simp only [Act.put,List.setIfInBounds_toArray,List.set_cons_zero,List.set_cons_succ]
       refine take_lit (i:=2) (v:= ?_) rfl (by kernel_rfl) (by kernel_rfl) (by kernel_rfl) (fun _ _ _ h=>h) (Or.inl ⟨by rfl,?hy2⟩) (by assumption) ?_
       case hy2=>(intro w hSw;(try dsimp only at hSw);go_simp;try with_reducible rfl)
       try simp only [Act.put,List.setIfInBounds_toArray,List.set_cons_zero,List.set_cons_succ]
       refine take_lit (i:=3) (v:= ?_) rfl (by kernel_rfl) (by kernel_rfl) (by kernel_rfl) (fun _ _ _ h=>h) (Or.inl ⟨by rfl,?hy3⟩) (by assumption) ?_
       case hy3=>(intro w hSw;(try dsimp only at hSw);go_simp;try with_reducible rfl)
       try simp only [Act.put,List.setIfInBounds_toArray,List.set_cons_zero,List.set_cons_succ]
       refine take_lit (i:=4) (v:= ?_) rfl (by kernel_rfl) (by kernel_rfl) (by kernel_rfl) (fun _ _ _ h=>h) (Or.inl ⟨by rfl,?hy4⟩) (by assumption) ?_
       case hy4=>(intro w hSw;(try dsimp only at hSw);go_simp;try with_reducible rfl)
       try simp only [Act.put,List.setIfInBounds_toArray,List.set_cons_zero,List.set_cons_succ]
       refine take_lit (i:=5) (v:= ?_) rfl (by kernel_rfl) (by kernel_rfl) (by kernel_rfl) (fun _ _ _ h=>h) (Or.inl ⟨by rfl,?hy5⟩) (by assumption) ?_
       case hy5=>(intro w hSw;(try dsimp only at hSw);go_simp;try with_reducible rfl)
       try simp only [Act.put,List.setIfInBounds_toArray,List.set_cons_zero,List.set_cons_succ]
       refine take_lit (i:=6) (v:= ?_) rfl (by kernel_rfl) (by kernel_rfl) (by kernel_rfl) (fun _ _ _ h=>h) (Or.inl ⟨by rfl,?hy6⟩) (by assumption) ?_
       case hy6=>(intro w hSw;(try dsimp only at hSw);go_simp;try with_reducible rfl)
       try simp only [Act.put,List.setIfInBounds_toArray,List.set_cons_zero,List.set_cons_succ]
       refine take_lit (i:=7) (v:= ?_) rfl (by kernel_rfl) (by kernel_rfl) (by kernel_rfl) (fun _ _ _ h=>h) (Or.inl ⟨by rfl,?hy7⟩) (by assumption) ?_
       case hy7=>(intro w hSw;(try dsimp only at hSw);go_simp;try with_reducible rfl)
       try simp only [Act.put,List.setIfInBounds_toArray,List.set_cons_zero,List.set_cons_succ]
       refine next_lit (i:=8) rfl (by kernel_rfl) (fun K hK=> ?_)
       go_simp
       refine (HMg.out w15 hb15).mono ?_
       rintro e w16 ⟨v,rfl,ho,hb16⟩
       have hS16:=HAfter.out w16 (ptg hb15 hb16)
       obtain ⟨p3,n3,rfl,s3⟩:=pcAt_of_owns ho
       refine hK.out _ _ hS16 (fun _=> ?_)
       clear hK K
       try simp only [Act.put,List.setIfInBounds_toArray,List.set_cons_zero,List.set_cons_succ]
       refine take_lit (i:=9) (v:= ?_) rfl (by kernel_rfl) (by kernel_rfl) (by kernel_rfl) (fun _ _ _ h=>h) (Or.inl ⟨by rfl,?hy9⟩) (by assumption) ?_
       case hy9=>(intro w hSw;(try dsimp only at hSw);go_simp;try with_reducible rfl)
       try simp only [Act.put,List.setIfInBounds_toArray,List.set_cons_zero,List.set_cons_succ]
       refine take_lit (i:=10) (v:= ?_) rfl (by kernel_rfl) (by kernel_rfl) (by kernel_rfl) (fun _ _ _ h=>h) (Or.inl ⟨by rfl,?hy10⟩) (by assumption) ?_
       case hy10=>(intro w hSw;(try dsimp only at hSw);go_simp;try with_reducible rfl)
       try simp only [Act.put,List.setIfInBounds_toArray,List.set_cons_zero,List.set_cons_succ]
       refine take_lit (i:=11) (v:= ?_) rfl (by kernel_rfl) (by kernel_rfl) (by kernel_rfl) (fun _ _ _ h=>h) (Or.inl ⟨by rfl,?hy11⟩) (by assumption) ?_
       case hy11=>(intro w hSw;(try dsimp only at hSw);go_simp;try with_reducible rfl)
       try simp only [Act.put,List.setIfInBounds_toArray,List.set_cons_zero,List.set_cons_succ]
       refine take_lit (i:=12) (v:= ?_) rfl (by kernel_rfl) (by kernel_rfl) (by kernel_rfl) (fun _ _ _ h=>h) (Or.inl ⟨by rfl,?hy12⟩) (by assumption) ?_
       case hy12=>(intro w hSw;(try dsimp only at hSw);go_simp;try with_reducible rfl)
       try simp only [Act.put,List.setIfInBounds_toArray,List.set_cons_zero,List.set_cons_succ]
       refine take_lit (i:=13) (v:= ?_) rfl (by kernel_rfl) (by kernel_rfl) (by kernel_rfl) (fun _ _ _ h=>h) (Or.inl ⟨by rfl,?hy13⟩) (by assumption) ?_
       case hy13=>(intro w hSw;(try dsimp only at hSw);go_simp;try with_reducible rfl)
       try simp only [Act.put,List.setIfInBounds_toArray,List.set_cons_zero,List.set_cons_succ]
       refine wpAnyH_done (by kernel_rfl) ?_ _
       have hEq:=Equal3_any p3 p2 n3 n2 (T2 k) (T2 k) w16 s3 (Hs2.out.below (ptg hb15 hb16)) (by have:=Hln.out;omega)
       rw [show decide (T2 k=T2 k)=true from by simp] at hEq
       have HF16:=hideg (ptg Hb14.out (ptg hb15 hb16))
       have y2:=hS16.2
       clear hS15 hS16 hb15 hb16 ho s3 HMg Hs2 Hb14
       generalize (T2 k).length=t2 at*
       go_wp2_with fail
       refine hEq.mono ?_
       rintro e w17 ⟨rfl,hb17⟩
       have HF17:=hideg (ptg HF16.out hb17)
       clear hEq hb17 y2 HF16
       go_wp2
       go_roundw
       case rel=>exact ⟨k+1,by omega,by go_num,HF17.out⟩
       case measure=>simp [intOf];omega
     · have hkn:¬((k:Int)<(g.lives.length:Int)):=by omega
       have HF:=hideg (ptg HB13.out hb)
       clear hb
       go_wp2
       go_ret
       exact .inl ⟨rfl,HF.out⟩
end Go.Proofs.YtfphigmeppdocaaGreat.Q
namespace Go.Proofs.YtfphigmeppdocaaGreat
open Crw
theorem topMore_holds:Rows.TopMoreSaid:=
 topMore_of fun g0 la0 ea0 lc0 ec0 a1 b1 x1 xa1 xc1 t2 t3 s hg0 hl0 hm0 hs0 hg1 hl1 hm1=>Q.topMore_walk ⟨g0.hor,g0.lives,g0.edges⟩ la0 ea0 lc0 ec0 a1 b1 x1 xa1 xc1 t2 t3 s ⟨hg0.lv,hg0.ed,hg0.nl,hg0.ne⟩ hl0 hm0 hg1 hl1 hm1 hs0
end Go.Proofs.YtfphigmeppdocaaGreat
