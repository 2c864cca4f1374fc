/-
  Several texts in one.
-/
import Derived.Test.YtfphigmeppdocaaGreatPk8
namespace Go.Proofs.YtfphigmeppdocaaGreat.Q
open Lo (Seq.prog)
theorem getD_get {S:List Int} {i:Nat} (h:i<S.length):S.getD i 0=S[i]:=by simp [List.getD_eq_getElem?_getD,h]
theorem cnt_index {S:List Int} (hS:S.Pairwise (·<·)) (t:Int) (j:Nat) (hj:j<S.length):S[j] <= t↔j<cnt S t:=by
 induction S generalizing j with
 | nil=>simp at hj
 | cons x S ih=>
   rw [List.pairwise_cons] at hS
   rw [cnt_cons]
   by_cases hx:x <= t
   · rw [if_pos hx]
     cases j with
     | zero=>simp;omega
     | succ j=>
       have:=ih hS.2 j (by simpa using hj)
       simp only [List.getElem_cons_succ]
       omega
   · rw [if_neg hx,cnt_none (fun y hy=>by have:=hS.1 y hy;omega)]
     have:x <= (x::S)[j]:=by
       cases j with
       | zero=>simp
       | succ j=>
         simp only [List.getElem_cons_succ]
         have:=hS.1 _ (List.getElem_mem (by simpa using hj:j<S.length));omega
     omega
theorem has_same {l:List (Int×Int)} {s t:Int} (hst:s <= t) (h:∀x∈flat l,¬(s<x /\ x <= t)):has l s=has l t:=by
 induction l with
 | nil=>rfl
 | cons p l ih=>
   rw [flat_cons] at h
   rw [has_cons,has_cons,ih (fun x hx=>h x (by simp [hx]))]
   have h1:=h p.1 (by simp)
   have h2:=h p.2 (by simp)
   congr 1
   rw [Bool.eq_iff_iff]
   simp only [Bool.and_eq_true,decide_eq_true_eq]
   omega
structure MTurns (S:List Int) (f:Int -> Option Int):Prop where
 same:∀s t,s <= t -> (∀x∈S,¬(s<x /\ x <= t)) -> f s=f t
 low:∀t,(∀x∈S,t<x) -> f t=none
 high:∀t,(∀x∈S,x <= t) -> f t=none
theorem mseg_none {S:List Int} {f:Int -> Option Int} {i:Nat} {t:Int} (h:∀k,k<i -> ¬(S.getD k 0 <= t /\ t<S.getD (k+1) 0)):mseg S f i t=none:=by
 induction i with
 | zero=>rfl
 | succ i ih=>rw [mseg_succ,ih (fun k hk=>h k (by omega)),if_neg (h i (by omega))];rfl
theorem mseg_at {S:List Int} {f:Int -> Option Int} {i k:Nat} {t:Int} (hS:S.Pairwise (·<·)) (hi:i<S.length) (hk:k<i) (h:S.getD k 0 <= t /\ t<S.getD (k+1) 0):mseg S f i t=f (S.getD k 0):=by
 rw [List.pairwise_iff_getElem] at hS
 have mono:∀a b,a <= b -> b<S.length -> S.getD a 0 <= S.getD b 0:=by
   intro a b hab hb
   rw [getD_get (by omega:a<S.length),getD_get hb]
   by_cases e:a=b
   · subst e;exact Int.le_refl _
   · exact Int.le_of_lt (hS a b (by omega) hb (by omega))
 induction i with
 | zero=>omega
 | succ i ih=>
   rw [mseg_succ]
   by_cases e:k=i
   · subst e
     rw [mseg_none (fun j hj hc=> ?_),if_pos h]
     · rfl
     · have:=mono (j+1) k (by omega) (by omega);omega
   · rw [ih (by omega) (by omega),if_neg (fun hc=> ?_)]
     · cases f (S.getD k 0)<;>rfl
     · have:=mono (k+1) i (by omega) (by omega);omega
theorem mseg_turns {S:List Int} {f:Int -> Option Int} (hS:S.Pairwise (·<·)) (h:MTurns S f) (t:Int):mseg S f (S.length- 1) t=f t:=by
 have hc:=fun j hj=>cnt_index hS t j hj
 rcases Nat.eq_zero_or_pos (cnt S t) with h0 | h0
 · rw [h.low t (fun x hx=>by
     obtain ⟨j,hj,rfl⟩:=List.getElem_of_mem hx
     have:=hc j hj;omega)]
   refine mseg_none fun k hk hh=> ?_
   rw [getD_get (by omega:k<S.length)] at hh
   have:=(hc k (by omega)).1 hh.1;omega
 rcases Nat.lt_or_ge (cnt S t) S.length with h1 | h1
 · have a1:=(hc (cnt S t- 1) (by omega)).2 (by omega)
   have a2:¬S[cnt S t- 1+1] <= t:=fun hh=>by have:=(hc (cnt S t- 1+1) (by omega)).1 hh;omega
   rw [mseg_at (k:=cnt S t- 1) hS (by omega) (by omega) (by rw [getD_get (by omega:cnt S t- 1<S.length),getD_get (by omega:cnt S t- 1+1<S.length)];omega),getD_get (by omega:cnt S t- 1<S.length)]
   refine h.same _ t a1 fun x hx hcx=> ?_
   obtain ⟨j,hj,rfl⟩:=List.getElem_of_mem hx
   have hS':=hS
   rw [List.pairwise_iff_getElem] at hS'
   by_cases hjk:j <= cnt S t- 1
   · by_cases e:j=cnt S t- 1
     · subst e;omega
     · have:=hS' j (cnt S t- 1) hj (by omega) (by omega);omega
   · have:=(hc j hj).1 hcx.2;omega
 · rw [h.high t (fun x hx=>by
     obtain ⟨j,hj,rfl⟩:=List.getElem_of_mem hx
     have:=hc j hj;omega)]
   refine mseg_none fun k hk hh=> ?_
   rw [getD_get (by omega:k+1<S.length)] at hh
   have:=(hc (k+1) (by omega)).2 (by omega);omega
theorem inP_same {p:Int×Int×Int} {s t:Int} (hst:s <= t) (h1:¬(s<p.1 /\ p.1 <= t)) (h2:¬(s<p.2.1 /\ p.2.1 <= t)):inP p s=inP p t:=by
 rw [Bool.eq_iff_iff,inP_iff,inP_iff];omega
theorem tel_same {m:List (Int×Int×Int)} {s t:Int} (hst:s <= t) (h:∀x∈turnsOf m,¬(s<x /\ x <= t)):tel m s=tel m t:=by
 induction m with
 | nil=>rfl
 | cons p m ih=>
   have hp:=mem_turnsOf (m:=p::m) (p:=p) (by simp)
   rw [tel_cons,tel_cons,inP_same hst (h _ hp.1) (h _ hp.2),ih fun x hx=>h x (by unfold turnsOf at hx ⊢;rw [List.flatMap_cons,List.mem_append];exact .inr hx)]
theorem inP_low {p:Int×Int×Int} {t:Int} (h:t<p.1):inP p t=false:=by unfold inP;simp only [Bool.and_eq_false_iff,decide_eq_false_iff_not];omega
theorem inP_high {p:Int×Int×Int} {t:Int} (h:p.2.1 <= t):inP p t=false:=by unfold inP;simp only [Bool.and_eq_false_iff,decide_eq_false_iff_not];omega
theorem tel_low {m:List (Int×Int×Int)} {t:Int} (h:∀x∈turnsOf m,t<x):tel m t=none:=tel_none fun _ hp=>inP_low (h _ (mem_turnsOf hp).1)
theorem tel_high {m:List (Int×Int×Int)} {t:Int} (h:∀x∈turnsOf m,x <= t):tel m t=none:=tel_none fun _ hp=>inP_high (h _ (mem_turnsOf hp).2)
def putF (m:List (Int×Int×Int)) (p:Int×Int×Int) (t:Int):Option Int:=if inP p t then some p.2.2 else tel m t
theorem putF_turns {m:List (Int×Int×Int)} {p:Int×Int×Int} {S:List Int} (hm:∀x,x∈S↔x∈turnsOf m++[p.1,p.2.1]):MTurns S (putF m p):=by
 have h1:∀x∈turnsOf m,x∈S:=fun x hx=>(hm x).2 (by simp [hx])
 have h2:p.1∈S:=(hm _).2 (by simp)
 have h3:p.2.1∈S:=(hm _).2 (by simp)
 refine ⟨fun s t hst h=> ?_,fun t h=> ?_,fun t h=> ?_⟩
 · unfold putF;rw [inP_same hst (h _ h2) (h _ h3),tel_same hst fun x hx=>h x (h1 x hx)]
 · unfold putF;rw [inP_low (h _ h2),tel_low fun x hx=>h x (h1 x hx)];rfl
 · unfold putF;rw [inP_high (h _ h3),tel_high fun x hx=>h x (h1 x hx)];rfl
def onlyF (m:List (Int×Int×Int)) (l:List (Int×Int)) (b:Bool) (t:Int):Option Int:=if has l t=b then tel m t else none
theorem onlyF_turns {m:List (Int×Int×Int)} {l:List (Int×Int)} {b:Bool} {S:List Int} (hm:∀x,x∈S↔x∈turnsOf m++flat l):MTurns S (onlyF m l b):=by
 have h1:∀x∈turnsOf m,x∈S:=fun x hx=>(hm x).2 (by simp [hx])
 have h2:∀x∈flat l,x∈S:=fun x hx=>(hm x).2 (by simp [hx])
 refine ⟨fun s t hst h=> ?_,fun t h=> ?_,fun t h=> ?_⟩
 · unfold onlyF;rw [has_same hst fun x hx=>h x (h2 x hx),tel_same hst fun x hx=>h x (h1 x hx)]
 · unfold onlyF;rw [tel_low fun x hx=>h x (h1 x hx)];simp
 · unfold onlyF;rw [tel_high fun x hx=>h x (h1 x hx)];simp
def both (how x y:Int):Int:=if how=1 then min x y else if how=2 then max x y else x+y
def isHow (how:Int):Bool:=decide (how=1 \/ how=2 \/ how=3)
theorem isHow_yes {how:Int} (h:how=1 \/ how=2 \/ how=3):isHow how=true:=by unfold isHow;rw [decide_eq_true_eq];exact h
theorem isHow_no {how:Int} (h:¬(how=1 \/ how=2 \/ how=3)):isHow how=false:=by unfold isHow;rw [decide_eq_false_iff_not];exact h
def wideB (x:Int):Prop:= -1000000000000 <= x /\ x <= 1000000000000
theorem wide_of_near {x:Int} (h:nearB x):wideB x:=by unfold nearB at h;unfold wideB;omega
def mrg (how:Int):Option Int -> Option Int -> Option Int
 | none,y=>y
 | some x,none=>some x
 | some x,some y=>some (both how x y)
def mergeF (a b:List (Int×Int×Int)) (how t:Int):Option Int:=mrg how (tel a t) (tel b t)
theorem mergeF_turns {a b:List (Int×Int×Int)} {how:Int} {S:List Int} (hm:∀x,x∈S↔x∈turnsOf a++turnsOf b):MTurns S (mergeF a b how):=by
 have h1:∀x∈turnsOf a,x∈S:=fun x hx=>(hm x).2 (by simp [hx])
 have h2:∀x∈turnsOf b,x∈S:=fun x hx=>(hm x).2 (by simp [hx])
 refine ⟨fun s t hst h=> ?_,fun t h=> ?_,fun t h=> ?_⟩
 · unfold mergeF;rw [tel_same hst fun x hx=>h x (h1 x hx),tel_same hst fun x hx=>h x (h2 x hx)]
 · unfold mergeF;rw [tel_low fun x hx=>h x (h1 x hx),tel_low fun x hx=>h x (h2 x hx)];rfl
 · unfold mergeF;rw [tel_high fun x hx=>h x (h1 x hx),tel_high fun x hx=>h x (h2 x hx)];rfl
theorem tl_tel {A S:List Int} {f:Int -> Option Int} {o:List (Int×Int×Int)} (hO:Ordered A S) (hf:MTurns S f) (T:Tl S f (S.length- 1) o) (t:Int):tel o t=f t:=by
 rw [T.pts,mseg_turns hO.inc hf]
open Go.RowKit
structure Bx3 (w W:World) (x y z:Value):Prop where
 c1:W.cell? ⟨w.heap.size,0,none⟩=some x
 c2:W.cell? ⟨w.heap.size+1,0,none⟩=some y
 c3:W.cell? ⟨w.heap.size+1+1,0,none⟩=some z
 bel:Below w.heap.size w W
 lt:w.heap.size+2<W.heap.size
theorem bx3_start (w:World) (x y z:Value) (t1 t2 t3:TypeId):Bx3 w (((w.alloc (.cells #[x] t1)).alloc (.cells #[y] t2)).alloc (.cells #[z] t3)) x y z:=by
 refine ⟨?_,?_,?_,ptw (pal _ _) (ptw (pal _ _) (pal _ _)),by simp⟩
 · rw [World.cell?_alloc_past _ _ _ (by simp;omega),World.cell?_alloc_past _ _ _ (by simp),World.cell?_alloc_at _ _ _ _ rfl];rfl
 · rw [World.cell?_alloc_past _ _ _ (by simp),World.cell?_alloc_at _ _ _ _ (by simp)];rfl
 · rw [World.cell?_alloc_at _ _ _ _ (by simp)];rfl
theorem Bx3.below {w W W' :World} {x y z:Value} (h:Bx3 w W x y z) (hb:Below W.heap.size W W'):Bx3 w W' x y z:=by
 have l:=h.lt
 refine ⟨?_,?_,?_,ptw h.bel hb,Nat.lt_of_lt_of_le l hb.size⟩
 · rw [hb.cell (p:=⟨w.heap.size,0,none⟩) (by show w.heap.size<_;omega)];exact h.c1
 · rw [hb.cell (p:=⟨w.heap.size+1,0,none⟩) (by show w.heap.size+1<_;omega)];exact h.c2
 · rw [hb.cell (p:=⟨w.heap.size+1+1,0,none⟩) (by show w.heap.size+1+1<_;omega)];exact h.c3
theorem step_append_row {P:Program} (w:World) {ops:Array Oper} {o:Oper} {a:Act} {K:Act -> World -> Prop} {Q:Exit -> Act -> World -> Prop} {E:Prop} (hgd:o.guard=none) (s x:Operand) (t:TypeId)
   (ho:o.op= .call {callee:= .builtin .append,args:=#[s,x],argTypes:=#[t,t] })
   (base:Nat) (e:TypeId) (i:TypeInfo) (z:Value) (size bytes:Nat) (ht:P.underlying t=some (.slice e)) (hi:P.info? e=some i) (hz:i.zero=some z)
   (hsize:i.size=size) (hby:i.bytes=bytes) (hzs:z.cells.size=size) (hsz:0<size)
   (g0 n c0:Nat) (xs:List Value) (hs:a.eval s= .slice (some ⟨g0,0,none⟩) n c0) (hown:w.ownsRow base e size (.slice (some ⟨g0,0,none⟩) n c0) n xs)
   (ad:Addr) (m c:Nat) (news:List Value) (hx:a.eval x= .slice (some ad) m c) (hl:news.length=m*size) (hnews:∀j u,news[j]? =some u -> w.cell? (ad.add j)=some u) (h1:∀u∈news,u.oneCell' =true)
   (h63:n+m <= maxLen) (hbytes:(n+m)*bytes <= 140737488355328) (hbase:base <= w.heap.size)
   (h:∀g cap w',w'.ownsRow base e size (.slice (some ⟨g,0,none⟩) (n+m) cap) (n+m) (xs++news) -> w.grownBy w' (some g0) -> K (a.put o.dst (.slice (some ⟨g,0,none⟩) (n+m) cap)) w'):
   if Region.wanted o (yielded ops a.tmps)=true then Oper.wp P o a w K Q else E:=by
 have hw:Region.wanted o (yielded ops a.tmps)=true:=by simp [Region.wanted,hgd]
 rw [if_pos hw]
 obtain ⟨v',w',hr,h2,h3,h4⟩:=run_append_own (P:=P) w base t o.type e i z size bytes ht hi hz hsize hby hzs hsz _ n xs hown ad m c news hl hnews h1 h63 hbytes hbase
 rcases h2.2 with ⟨hv,_⟩ | ⟨g,cap,cur,hv,_⟩
 · exact absurd (h4.1 hv).1 (by simp)
 · subst hv
   unfold Oper.wp execOp
   simp only [ho,resolve,invoke,builtin,Sem.run_bind,Sem.run_pure,Result.andThen_ok,List.map_toArray,List.map_cons,List.map_nil,hs,hx,hr]
   exact h g cap w' h2 h3
theorem mchk_bad {m:List (Int×Int×Int)} (h:¬mchk m=0):∃n,mchk m=n /\ (n=2 \/ n=5):=by
 rcases mchk_cases m with e | e | ⟨e,_⟩
 · exact ⟨2,e,.inl rfl⟩
 · exact ⟨5,e,.inr rfl⟩
 · exact absurd e h
theorem mchk_good {m:List (Int×Int×Int)} (h:mchk m=0):m.length <= 200 /\ MCan m /\ ∀p∈m,NearP p:=by
 rcases mchk_cases m with e | e | ⟨_,h1,h2⟩
 · omega
 · omega
 · exact ⟨h1,mcan_of_good h2,near_of_good h2⟩
theorem tel_near {m:List (Int×Int×Int)} (hn:∀p∈m,NearP p) {t v:Int} (h:tel m t=some v):nearB v:=by
 obtain ⟨p,hp,_,rfl⟩:=tel_mem h
 exact (hn p hp).2.2
theorem join_any (x y how:Int) (w:World) (hh:how=1 \/ how=2 \/ how=3) (hx:wideB x) (hy:wideB y):
   Calls Seq.prog 45 #[.int .i64 x,.int .i64 y,.int .i64 how] w fun e w' =>e= .returned (.int .i64 (both how x y)) /\ w' =w:=by
 unfold wideB at hx hy
 obtain ⟨x1,x2⟩:=hx
 obtain ⟨y1,y2⟩:=hy
 rcases hh with rfl | rfl | rfl
 · have HC:Hid (both 1 x y=min x y):=rfl
   go_enter Seq.func45,Tryz.ntmps45
   go_wp2
   all_goals go_ret
   all_goals exact ⟨ret_int (by first | (rw [HC.out];done) | (rw [HC.out];omega)),rfl⟩
 · have HC:Hid (both 2 x y=max x y):=rfl
   go_enter Seq.func45,Tryz.ntmps45
   go_wp2
   all_goals go_ret
   all_goals exact ⟨ret_int (by first | (rw [HC.out];done) | (rw [HC.out];omega)),rfl⟩
 · have HC:Hid (both 3 x y=x+y):=rfl
   go_enter Seq.func45,Tryz.ntmps45
   go_wp2
   all_goals go_ret
   all_goals exact ⟨ret_int (by first | (rw [HC.out];done) | (rw [HC.out];omega)),rfl⟩
theorem joins_any (how:Int) (w:World):
   Calls Seq.prog 41 #[.int .i64 how] w fun e w' =>e= .returned (.bool (isHow how)) /\ w' =w:=by
 by_cases h1:how=1
 · have HC:Hid (isHow how=true):=isHow_yes (.inl h1)
   subst h1
   go_enter Seq.func41,Tryz.ntmps41
   go_wp2
   go_ret
   exact ⟨ret_bool HC.out.symm,rfl⟩
 · have d1:(how==1)=false:=by simpa using h1
   by_cases h2:how=2
   · have HC:Hid (isHow how=true):=isHow_yes (.inr (.inl h2))
     subst h2
     clear d1 h1
     go_enter Seq.func41,Tryz.ntmps41
     go_wp2
     go_ret
     exact ⟨ret_bool HC.out.symm,rfl⟩
   · have d2:(how==2)=false:=by simpa using h2
     by_cases h3:how=3
     · have HC:Hid (isHow how=true):=isHow_yes (.inr (.inr h3))
       subst h3
       clear d1 d2 h1 h2
       go_enter Seq.func41,Tryz.ntmps41
       go_wp2
       go_ret
       exact ⟨ret_bool HC.out.symm,rfl⟩
     · have d3:(how==3)=false:=by simpa using h3
       have HC:Hid (isHow how=false):=isHow_no (by omega)
       clear h1 h2 h3
       go_enter Seq.func41,Tryz.ntmps41
       go_wp2
       go_ret
       exact ⟨ret_bool HC.out.symm,rfl⟩
set_option maxRecDepth 100000 in
set_option maxHeartbeats 2000000 in
theorem merge1_any (Ba Bb Bh:Nat) (how:Int) (hh:how=1 \/ how=2 \/ how=3) (ao bo:Option Addr) (ca cb:Nat) (a b:List (Int×Int×Int)) (t:Int) (w:World) (hA:PcAt w ao a) (hB:PcAt w bo b) (la:a.length <= 200) (lb:b.length <= 200) (na:∀p∈a,NearP p) (nb:∀p∈b,NearP p)
   (c1:w.cell? ⟨Ba,0,none⟩=some (.slice ao a.length ca)) (c2:w.cell? ⟨Bb,0,none⟩=some (.slice bo b.length cb)) (c3:w.cell? ⟨Bh,0,none⟩=some (.int .i64 how)):
   Calls Seq.prog 44 #[.int .i64 t,.pointer (some ⟨Ba,0,none⟩),.pointer (some ⟨Bb,0,none⟩),.pointer (some ⟨Bh,0,none⟩)] w fun e w' =>(∃x,e= .returned (.tuple #[.int .i64 x,.bool (mergeF a b how t).isSome]) /\ ∀y,mergeF a b how t=some y -> x=y) /\ Below w.heap.size w w':=by
 have hHa:=PAt_any ao ca a t w hA (by omega)
 have HHb:Hid (∀W,Below w.heap.size w W -> Calls Seq.prog 11 #[.slice bo b.length cb,.int .i64 t] W fun e w' =>e= .returned (.tuple #[.int .i64 ((tel b t).getD 0),.bool (tel b t).isSome]) /\ Below W.heap.size W w'):=fun W h=>PAt_any bo cb b t W (hB.below h) (by omega)
 have l2:=World.block_lt_of_cell? w _ c2
 have l3:=World.block_lt_of_cell? w _ c3
 simp only at l2 l3
 have HC2:Hid (∀W,Below w.heap.size w W -> W.cell? ⟨Bb,0,none⟩=some (.slice bo b.length cb) /\ W.cell? ⟨Bh,0,none⟩=some (.int .i64 how)):=fun W h=>⟨(h.cell (p:=⟨Bb,0,none⟩) l2).trans c2,(h.cell (p:=⟨Bh,0,none⟩) l3).trans c3⟩
 have hna:∀x,tel a t=some x -> nearB x:=fun x h=>tel_near na h
 have hnb:∀x,tel b t=some x -> nearB x:=fun x h=>tel_near nb h
 have HF:Hid (mergeF a b how t=mrg how (tel a t) (tel b t)):=rfl
 rw [HF.out]
 clear hA hB na nb c2 c3 HF
 cases hx:tel a t with
 | none=>
   simp only [hx,Option.getD_none,Option.isSome_none] at hHa
   cases hy:tel b t with
   | none=>
     simp only [hy,Option.getD_none,Option.isSome_none] at HHb
     clear hx hy hna hnb
     go_enter Seq.func44,Tryz.ntmps44
     go_wp2_with fail
     refine hHa.mono ?_
     rintro e w1 ⟨rfl,hb1⟩
     obtain ⟨d2,d3⟩:=HC2.out w1 hb1
     go_wp2_with fail
     refine (HHb.out w1 hb1).mono ?_
     rintro e w2 ⟨rfl,hb2⟩
     have hbb:=ptw hb1 hb2
     clear hb1 hb2 d2
     go_wp2
     go_ret2
     exact ⟨⟨0,rfl,fun y h=>by cases h⟩,hbb⟩
   | some y=>
     simp only [hy,Option.getD_some,Option.isSome_some] at HHb
     clear hx hy hna hnb
     go_enter Seq.func44,Tryz.ntmps44
     go_wp2_with fail
     refine hHa.mono ?_
     rintro e w1 ⟨rfl,hb1⟩
     obtain ⟨d2,d3⟩:=HC2.out w1 hb1
     go_wp2_with fail
     refine (HHb.out w1 hb1).mono ?_
     rintro e w2 ⟨rfl,hb2⟩
     have hbb:=ptw hb1 hb2
     clear hb1 hb2 d2
     go_wp2
     go_ret2
     exact ⟨⟨y,rfl,fun z h=>by cases h;rfl⟩,hbb⟩
 | some x=>
   simp only [hx,Option.getD_some,Option.isSome_some] at hHa
   cases hy:tel b t with
   | none=>
     simp only [hy,Option.getD_none,Option.isSome_none] at HHb
     clear hx hy hna hnb
     go_enter Seq.func44,Tryz.ntmps44
     go_wp2_with fail
     refine hHa.mono ?_
     rintro e w1 ⟨rfl,hb1⟩
     obtain ⟨d2,d3⟩:=HC2.out w1 hb1
     go_wp2_with fail
     refine (HHb.out w1 hb1).mono ?_
     rintro e w2 ⟨rfl,hb2⟩
     have hbb:=ptw hb1 hb2
     clear hb1 hb2 d2
     go_wp2
     go_ret2
     exact ⟨⟨x,rfl,fun z h=>by cases h;rfl⟩,hbb⟩
   | some y=>
     simp only [hy,Option.getD_some,Option.isSome_some] at HHb
     have hT:=fun W=>join_any x y how W hh (wide_of_near (hna x hx)) (wide_of_near (hnb y hy))
     have HR:Hid (mrg how (some x) (some y)=some (both how x y)):=rfl
     rw [HR.out]
     clear hx hy hna hnb HR
     generalize both how x y=q at hT ⊢
     go_enter Seq.func44,Tryz.ntmps44
     go_wp2_with fail
     refine hHa.mono ?_
     rintro e w1 ⟨rfl,hb1⟩
     obtain ⟨d2,d3⟩:=HC2.out w1 hb1
     go_wp2_with fail
     refine (HHb.out w1 hb1).mono ?_
     rintro e w2 ⟨rfl,hb2⟩
     have hbb:=ptw hb1 hb2
     have d3':=(HC2.out w2 hbb).2
     clear hb1 hb2 d2 d3
     go_wp2_with (go_at_call 45;refine (hT _).mono ?_;rintro e w' ⟨rfl,rfl⟩)
     go_ret2
     exact ⟨⟨q,rfl,fun z h=>by cases h;rfl⟩,hbb⟩
def MergeIs (a b:List (Int×Int×Int)) (how n:Int) (r:List (Int×Int×Int)):Prop:=
 (¬mchk a=0 /\ n=mchk a /\ r=[]) \/ (mchk a=0 /\ ¬mchk b=0 /\ n=mchk b /\ r=[]) \/ (mchk a=0 /\ mchk b=0 /\ ¬(how=1 \/ how=2 \/ how=3) /\ n=1 /\ r=[]) \/
 (mchk a=0 /\ mchk b=0 /\ (how=1 \/ how=2 \/ how=3) /\ MapIs (turnsOf a++turnsOf b) (mergeF a b how) n r)
theorem hide3 {p:Prop} (h:p):Hid p:=h
theorem nil3 (w W:World):W.ownsRow w.heap.size 54 3 (.slice none 0 0) ([]:List (Int×Int×Int)).length (enc3 []):=World.ownsRow_nil _ _ _ _
set_option maxRecDepth 100000 in
set_option maxHeartbeats 4000000 in
theorem Merge_any (how:Int) (ao bo:Option Addr) (ca cb:Nat) (a b:List (Int×Int×Int)) (w:World) (hA:PcAt w ao a) (hB:PcAt w bo b):
   Calls Seq.prog 15 #[.slice ao a.length ca,.slice bo b.length cb,.int .i64 how] w fun e w' =>∃n r,MergeIs a b how n r /\ Told3 w w' e n r:=by
 have h1:=fun W (h:Below w.heap.size w W)=>PCheck_any ao ca a W (hA.below h)
 have h2:=fun W (h:Below w.heap.size w W)=>PCheck_any bo cb b W (hB.below h)
 by_cases e1:¬mchk a=0
 · obtain ⟨n,en,hn⟩:=mchk_bad e1
   have HC:Hid (MergeIs a b how n []):= .inl ⟨e1,en.symm,rfl⟩
   simp only [en] at h1
   clear e1 h2 en
   rcases hn with rfl | rfl
   all_goals
     go_enter Seq.func15,Tryz.ntmps15
     go_wp2_with fail
     have B0:=bx3_start w (.slice ao a.length ca) (.slice bo b.length cb) (.int .i64 how) 41 41 3
     refine (h1 _ B0.bel).mono ?_
     rintro e w1 ⟨rfl,hb1⟩
     have g1:=ptw B0.bel hb1
     clear B0 hb1
     go_wp2
     go_ret2
     exact ⟨_,_,HC.out,_,rfl,nil3 _ _,g1⟩
 rw [Decidable.not_not] at e1
 simp only [e1] at h1
 obtain ⟨la,ma,na⟩:=mchk_good e1
 have HE1:Hid (mchk a=0):=e1
 have HNA:Hid (∀p∈a,NearP p):=na
 clear e1 na ma
 by_cases e2:¬mchk b=0
 · obtain ⟨n,en,hn⟩:=mchk_bad e2
   have HC:Hid (MergeIs a b how n []):= .inr (.inl ⟨HE1.out,e2,en.symm,rfl⟩)
   simp only [en] at h2
   clear e2 en
   rcases hn with rfl | rfl
   all_goals
     go_enter Seq.func15,Tryz.ntmps15
     go_wp2_with fail
     have B0:=bx3_start w (.slice ao a.length ca) (.slice bo b.length cb) (.int .i64 how) 41 41 3
     refine (h1 _ B0.bel).mono ?_
     rintro e w1 ⟨rfl,hb1⟩
     have B1:=B0.below hb1
     have cc2:=B1.c2
     have g1:=B1.bel
     clear B0 hb1 B1
     go_wp2_with fail
     refine (h2 _ g1).mono ?_
     rintro e w2 ⟨rfl,hb2⟩
     have g2:=ptw g1 hb2
     clear g1 hb2 cc2
     go_wp2
     go_ret2
     exact ⟨_,_,HC.out,_,rfl,nil3 _ _,g2⟩
 rw [Decidable.not_not] at e2
 simp only [e2] at h2
 obtain ⟨lb,mb,nb⟩:=mchk_good e2
 have HE2:Hid (mchk b=0):=e2
 have HNB:Hid (∀p∈b,NearP p):=nb
 clear e2 nb mb
 by_cases hh:¬(how=1 \/ how=2 \/ how=3)
 · have HC:Hid (MergeIs a b how 1 []):= .inr (.inr (.inl ⟨HE1.out,HE2.out,hh,rfl,rfl⟩))
   have hJ:=fun W=>joins_any how W
   rw [isHow_no hh] at hJ
   clear hh
   go_enter Seq.func15,Tryz.ntmps15
   go_wp2_with fail
   have B0:=bx3_start w (.slice ao a.length ca) (.slice bo b.length cb) (.int .i64 how) 41 41 3
   refine (h1 _ B0.bel).mono ?_
   rintro e w1 ⟨rfl,hb1⟩
   have B1:=B0.below hb1
   have cc2:=B1.c2
   have g1:=B1.bel
   clear B0 hb1
   go_wp2_with fail
   refine (h2 _ g1).mono ?_
   rintro e w2 ⟨rfl,hb2⟩
   have B2:=B1.below hb2
   have cc3:=B2.c3
   have g2:=B2.bel
   clear g1 hb2 cc2 B1 B2
   go_wp2_with (go_at_call 41;refine (hJ _).mono ?_;rintro e w' ⟨rfl,rfl⟩)
   go_ret2
   exact ⟨_,_,HC.out,_,rfl,nil3 _ _,g2⟩
 rw [Decidable.not_not] at hh
 have HH:Hid (how=1 \/ how=2 \/ how=3):=hh
 obtain ⟨i0,hi,hz0,hz1,hz2⟩:=info_parts Tryz.infoInt
 have hmf:∀(fn:Fn) (first cap:Array Value) (w:World),(Instr.makeFunc fn first cap).run Seq.prog w= .ok (.func fn first cap) w:=fun _ _ _ _=>rfl
 have hlA:(turnsOf a).length=2*a.length:=turnsOf_length a
 have hlB:(turnsOf b).length=2*b.length:=turnsOf_length b
 have HLN:Hid ((turnsOf a++turnsOf b).length=2*a.length+2*b.length):=by show _=_;rw [List.length_append,hlA,hlB]
 have hNB:Hid (((turnsOf b).map (Value.int .i64)).length=2*b.length*1):=by show _=_;rw [List.length_map,hlB];omega
 have hOB:Hid (∀u∈(turnsOf b).map (Value.int .i64),u.oneCell' =true):=by intro u hu;rw [List.mem_map] at hu;obtain ⟨z,_,rfl⟩:=hu;rfl
 have hMx:Hid (2*a.length+2*b.length <= maxLen):=by show _ <= _;unfold maxLen;omega
 have hBy:Hid ((2*a.length+2*b.length)*8 <= 140737488355328):=by show _ <= _;omega
 clear hlA hlB
 have hJ:=fun W=>joins_any how W
 rw [isHow_yes hh] at hJ
 clear hh
 have hgo:∀w2,Bx3 w w2 (.slice ao a.length ca) (.slice bo b.length cb) (.int .i64 how) -> ∀W gg cap1,W.ownsRow w2.heap.size 3 1 (.slice (some ⟨gg,0,none⟩) (2*a.length+2*b.length) cap1) (2*a.length+2*b.length) ((turnsOf a).map (Value.int .i64)++(turnsOf b).map (Value.int .i64)) -> Below w2.heap.size w2 W ->
     Calls Seq.prog 42 #[.slice (some ⟨gg,0,none⟩) (2*a.length+2*b.length) cap1,.func (.func 44) #[] #[.pointer (some ⟨w.heap.size,0,none⟩),.pointer (some ⟨w.heap.size+1,0,none⟩),.pointer (some ⟨w.heap.size+1+1,0,none⟩)]] W fun e w' =>∃n r v',MergeIs a b how n r /\ e= .returned (.tuple #[v',.int .i64 n]) /\ w'.ownsRow w.heap.size 54 3 v' r.length (enc3 r) /\ Below w2.heap.size w2 w':=by
   intro w2 B2 W gg cap1 hv hbW
   have hp:∀t wq,Below w2.heap.size w2 wq -> Calls Seq.prog 44 (#[.int .i64 t]++#[.pointer (some ⟨w.heap.size,0,none⟩),.pointer (some ⟨w.heap.size+1,0,none⟩),.pointer (some ⟨w.heap.size+1+1,0,none⟩)]) wq fun e w' =>(∃x,e= .returned (.tuple #[.int .i64 x,.bool (mergeF a b how t).isSome]) /\ ∀y,mergeF a b how t=some y -> x=y) /\ Below wq.heap.size wq w':=by
     intro t wq hq
     have Bq:=B2.below hq
     exact merge1_any w.heap.size (w.heap.size+1) (w.heap.size+1+1) how HH.out ao bo ca cb a b t wq (hA.below Bq.bel) (hB.below Bq.bel) la lb HNA.out HNB.out Bq.c1 Bq.c2 Bq.c3
   have hbl:=build_own 44 _ (mergeF a b how) (enters_of Seq.func44 (by kernel_rfl) rfl) w2 W hbW hp gg cap1 (turnsOf a++turnsOf b) (by rw [HLN.out,List.map_append];exact hv) (by rw [HLN.out];omega)
   rw [HLN.out] at hbl
   refine hbl.mono ?_
   rintro e w' ⟨n,r,v',hM,rfl,ho,hb⟩
   exact ⟨n,r,v',.inr (.inr (.inr ⟨HE1.out,HE2.out,HH.out,hM⟩)),rfl,ownsRow_base ho B2.bel.size,hb⟩
 have HGO:=hgo
 have HGo:Hid (∀w2,Bx3 w w2 (.slice ao a.length ca) (.slice bo b.length cb) (.int .i64 how) -> ∀W gg cap1,W.ownsRow w2.heap.size 3 1 (.slice (some ⟨gg,0,none⟩) (2*a.length+2*b.length) cap1) (2*a.length+2*b.length) ((turnsOf a).map (Value.int .i64)++(turnsOf b).map (Value.int .i64)) -> Below w2.heap.size w2 W ->
     Calls Seq.prog 42 #[.slice (some ⟨gg,0,none⟩) (2*a.length+2*b.length) cap1,.func (.func 44) #[] #[.pointer (some ⟨w.heap.size,0,none⟩),.pointer (some ⟨w.heap.size+1,0,none⟩),.pointer (some ⟨w.heap.size+1+1,0,none⟩)]] W fun e w' =>∃n r v',MergeIs a b how n r /\ e= .returned (.tuple #[v',.int .i64 n]) /\ w'.ownsRow w.heap.size 54 3 v' r.length (enc3 r) /\ Below w2.heap.size w2 w'):=hgo
 have HPA:Hid (∀W,Below w.heap.size w W -> PcAt W ao a /\ PcAt W bo b):=fun W h=>⟨hA.below h,hB.below h⟩
 clear hgo HGO hA hB
 have B0:=bx3_start w (.slice ao a.length ca) (.slice bo b.length cb) (.int .i64 how) 41 41 3
 all_goals
   go_enter Seq.func15,Tryz.ntmps15
   go_wp2_with fail
   refine (h1 _ B0.bel).mono ?_
   rintro e w1 ⟨rfl,hb1⟩
   have B1:=B0.below hb1
   have cc2:=B1.c2
   have g1:=B1.bel
   clear B0 hb1
   go_wp2_with fail
   refine (h2 _ g1).mono ?_
   rintro e w2 ⟨rfl,hb2⟩
   have B2:=B1.below hb2
   clear g1 hb2 cc2 B1 h1 h2
   have cc1:=B2.c1
   have cc2:=B2.c2
   have cc3:=B2.c3
   have hGo:=HGo.out w2 B2
   have HG2:=hGo
   have HL:=B2.lt
   have HBel:Hid (Below w.heap.size w w2):=B2.bel
   have hEA:Hid (∀W,Below w2.heap.size w2 W -> Calls Seq.prog 43 #[.slice ao a.length ca] W fun e w' =>∃g,e= .returned (.slice (some ⟨g,0,none⟩) (2*a.length) (2*a.length)) /\ w'.ownsRow w2.heap.size 3 1 (.slice (some ⟨g,0,none⟩) (2*a.length) (2*a.length)) (2*a.length) ((turnsOf a).map (Value.int .i64)) /\ Below W.heap.size W w'):=fun W h=>
     (pbounds_any ao ca a W (HPA.out W (ptw B2.bel h)).1 la).mono fun e w' ⟨g,he,ho,hb⟩=>⟨g,he,ownsRow_base ho h.size,hb⟩
   have hEB:Hid (∀W,Below w2.heap.size w2 W -> Calls Seq.prog 43 #[.slice bo b.length cb] W fun e w' =>∃g,e= .returned (.slice (some ⟨g,0,none⟩) (2*b.length) (2*b.length)) /\ w'.ownsRow W.heap.size 3 1 (.slice (some ⟨g,0,none⟩) (2*b.length) (2*b.length)) (2*b.length) ((turnsOf b).map (Value.int .i64)) /\ Below W.heap.size W w'):=fun W h=>
     pbounds_any bo cb b W (HPA.out W (ptw B2.bel h)).2 lb
   have hl1:w.heap.size<w2.heap.size:=by omega
   have hl2:w.heap.size+1<w2.heap.size:=by omega
   have HGF:=hide3 hGo
   clear B2 hGo HG2 HGo HPA
   go_wp2_with fail
   refine (hJ _).mono ?_
   rintro e w2' ⟨rfl,hw2⟩
   have hw2s:=hw2.symm
   subst hw2s
   clear hJ hw2
   go_wp2_with fail
   go_region_held3 (fun w' => w'.cell? ⟨w.heap.size, 0, none⟩ = some (.slice ao a.length ca) /\ w'.cell? ⟨w.heap.size + 1, 0, none⟩ = some (.slice bo b.length cb))
     (first | go_keep | (refine ⟨?_,?_⟩<;>assumption))
     (first
       | (go_at_call_of 43 (Value.slice ao a.length ca);refine (hEA.out _ (Below.refl _ _).drew).mono ?_;rintro e w3 ⟨g1,rfl,hownA,hb3⟩;have hb3' :Below w2.heap.size w2 w3:=ptw (Below.refl _ _).drew hb3;have k13:=(hb3'.cell (p:=⟨w.heap.size,0,none⟩) hl1).trans cc1;have k23:=(hb3'.cell (p:=⟨w.heap.size+1,0,none⟩) hl2).trans cc2)
       | (go_at_call_of 43 (Value.slice bo b.length cb);refine (hEB.out _ hb3').mono ?_;rintro e w4 ⟨g2,rfl,hownB,hb4⟩;have hb4' :Below w2.heap.size w2 w4:=ptw hb3' hb4;have k14:=(hb4'.cell (p:=⟨w.heap.size,0,none⟩) hl1).trans cc1;have k24:=(hb4'.cell (p:=⟨w.heap.size+1,0,none⟩) hl2).trans cc2)
       | (go_at_call 42;refine (HGF.out _ _ _ hown5 hb5').mono ?_;rintro e w6 ⟨n6,r6,v6,hM6,rfl,ho6,hb6⟩;have k16:=(hb6.cell (p:=⟨w.heap.size,0,none⟩) hl1).trans cc1;have k26:=(hb6.cell (p:=⟨w.heap.size+1,0,none⟩) hl2).trans cc2)
       | (revert hb4;intro hb4;refine step_append_row _ (by rfl) _ _ _ (by rfl) w2.heap.size 3 i0 _ 1 8 ((Seq.pu 37).trans Tryz.underlying37) hi hz0 hz1 hz2 rfl Nat.one_pos g1 (2*a.length) (2*a.length) ((turnsOf a).map (Value.int .i64)) (by rfl) (ownsRow_below hownA hb4) ⟨g2,0,none⟩ (2*b.length) (2*b.length) ((turnsOf b).map (Value.int .i64)) (by rfl) hNB.out (hownB.cells (g:=g2) rfl) hOB.out hMx.out hBy.out hb4'.size ?_;intro gg cap1 w5 hown5 hgrow;have hb5' :Below w2.heap.size w2 w5:=hb4'.grown hgrow hb4'.size (fun j hj=>by cases hj;exact ((ownsRow_below hownA hb4).lt g1 rfl).1);have k15:=(hb5'.cell (p:=⟨w.heap.size,0,none⟩) hl1).trans cc1;have k25:=(hb5'.cell (p:=⟨w.heap.size+1,0,none⟩) hl2).trans cc2))
   all_goals
     have HM6:Hid (MergeIs a b _ n6 r6):=hM6
     have hbF:Below w.heap.size w w6:=ptw HBel.out hb6
     clear hM6 hb6
     go_wp2
     go_ret2
     exact ⟨n6,r6,HM6.out,v6,rfl,ho6,hbF⟩
structure Bx2 (w W:World) (x:Value) (p:Int×Int×Int):Prop where
 c1:W.cell? ⟨w.heap.size,0,none⟩=some x
 p0:W.cell? ⟨w.heap.size+1,0,none⟩=some (.int .i64 p.1)
 p1:W.cell? ⟨w.heap.size+1,1,none⟩=some (.int .i64 p.2.1)
 p2:W.cell? ⟨w.heap.size+1,2,none⟩=some (.int .i64 p.2.2)
 bel:Below w.heap.size w W
 lt:w.heap.size+1<W.heap.size
theorem bx2_start (w:World) (x:Value) (p:Int×Int×Int) (t1 t2:TypeId):Bx2 w ((w.alloc (.cells #[x] t1)).alloc (.cells #[.int .i64 p.1,.int .i64 p.2.1,.int .i64 p.2.2] t2)) x p:=by
 refine ⟨?_,?_,?_,?_,ptw (pal _ _) (pal _ _),by simp⟩
 · rw [World.cell?_alloc_past _ _ _ (by simp),World.cell?_alloc_at _ _ _ _ rfl];rfl
 · rw [World.cell?_alloc_at _ _ _ _ (by simp)];rfl
 · rw [World.cell?_alloc_at _ _ _ _ (by simp)];rfl
 · rw [World.cell?_alloc_at _ _ _ _ (by simp)];rfl
theorem Bx2.below {w W W' :World} {x:Value} {p:Int×Int×Int} (h:Bx2 w W x p) (hb:Below W.heap.size W W'):Bx2 w W' x p:=by
 have l:=h.lt
 refine ⟨?_,?_,?_,?_,ptw h.bel hb,Nat.lt_of_lt_of_le l hb.size⟩
 · rw [hb.cell (p:=⟨w.heap.size,0,none⟩) (by show w.heap.size<_;omega)];exact h.c1
 · rw [hb.cell (p:=⟨w.heap.size+1,0,none⟩) (by show w.heap.size+1<_;omega)];exact h.p0
 · rw [hb.cell (p:=⟨w.heap.size+1,1,none⟩) (by show w.heap.size+1<_;omega)];exact h.p1
 · rw [hb.cell (p:=⟨w.heap.size+1,2,none⟩) (by show w.heap.size+1<_;omega)];exact h.p2
set_option maxRecDepth 100000 in
set_option maxHeartbeats 2000000 in
theorem put1_any (Bm Bp:Nat) (ao:Option Addr) (ca:Nat) (m:List (Int×Int×Int)) (p:Int×Int×Int) (t:Int) (w:World) (hA:PcAt w ao m) (la:m.length <= 200)
   (c1:w.cell? ⟨Bm,0,none⟩=some (.slice ao m.length ca)) (p0:w.cell? ⟨Bp,0,none⟩=some (.int .i64 p.1)) (p1:w.cell? ⟨Bp,1,none⟩=some (.int .i64 p.2.1)) (p2:w.cell? ⟨Bp,2,none⟩=some (.int .i64 p.2.2)):
   Calls Seq.prog 112 #[.int .i64 t,.pointer (some ⟨Bp,0,none⟩),.pointer (some ⟨Bm,0,none⟩)] w fun e w' =>(∃x,e= .returned (.tuple #[.int .i64 x,.bool (putF m p t).isSome]) /\ ∀y,putF m p t=some y -> x=y) /\ Below w.heap.size w w':=by
 have hhas:=fun W=>phas_any p.1 p.2.1 p.2.2 t W
 have l1:=World.block_lt_of_cell? w _ c1
 have l2:=World.block_lt_of_cell? w _ p2
 simp only at l1 l2
 have HC:Hid (∀W,Below w.heap.size w W -> W.cell? ⟨Bm,0,none⟩=some (.slice ao m.length ca) /\ W.cell? ⟨Bp,2,none⟩=some (.int .i64 p.2.2) /\ Calls Seq.prog 11 #[.slice ao m.length ca,.int .i64 t] W fun e w' =>e= .returned (.tuple #[.int .i64 ((tel m t).getD 0),.bool (tel m t).isSome]) /\ Below W.heap.size W w'):=fun W h=>
   ⟨(h.cell (p:=⟨Bm,0,none⟩) l1).trans c1,(h.cell (p:=⟨Bp,2,none⟩) l2).trans p2,PAt_any ao ca m t W (hA.below h) (by omega)⟩
 clear hA
 cases hp:inP p t with
 | true=>
   have e1:inB p.1 p.2.1 t=true:=hp
   have HF:Hid (putF m p t=some p.2.2):=by show _=_;unfold putF;rw [hp];rfl
   rw [HF.out]
   rw [e1] at hhas
   clear hp e1 HF
   go_enter Seq.func112,Tryz.ntmps112
   go_wp2_with fail
   refine (hhas _).mono ?_
   rintro e w1 ⟨rfl,hb1⟩
   have d2:=(HC.out w1 hb1).2.1
   go_wp2
   go_ret2
   exact ⟨⟨_,rfl,fun y h=>by cases h;rfl⟩,hb1⟩
 | false=>
   have e1:inB p.1 p.2.1 t=false:=hp
   have HF:Hid (putF m p t=tel m t):=by show _=_;unfold putF;rw [hp];rfl
   rw [HF.out]
   rw [e1] at hhas
   clear hp e1 HF
   have HX:Hid (∀y,tel m t=some y -> (tel m t).getD 0=y):=fun y h=>by rw [h];rfl
   generalize tel m t=q at HC HX ⊢
   go_enter Seq.func112,Tryz.ntmps112
   go_wp2_with fail
   refine (hhas _).mono ?_
   rintro e w1 ⟨rfl,hb1⟩
   have d1:=(HC.out w1 hb1).1
   have hAt:=(HC.out w1 hb1).2.2
   go_wp2_with fail
   refine hAt.mono ?_
   rintro e w2 ⟨rfl,hb2⟩
   have hbb:=ptw hb1 hb2
   clear hb1 hb2 hAt d1
   go_wp2
   go_ret2
   exact ⟨⟨_,rfl,HX.out⟩,hbb⟩
def PutIs (m:List (Int×Int×Int)) (p:Int×Int×Int) (n:Int) (r:List (Int×Int×Int)):Prop:=
 (¬mchk m=0 /\ n=mchk m /\ r=[]) \/ (mchk m=0 /\ ¬NearP p /\ n=5 /\ r=[]) \/ (mchk m=0 /\ NearP p /\ MapIs (turnsOf m++[p.1,p.2.1]) (putF m p) n r)
set_option maxRecDepth 100000 in
set_option maxHeartbeats 4000000 in
theorem Put_any (ao:Option Addr) (ca:Nat) (m:List (Int×Int×Int)) (p:Int×Int×Int) (w:World) (hA:PcAt w ao m):
   Calls Seq.prog 81 #[.slice ao m.length ca,.agg #[.int .i64 p.1,.int .i64 p.2.1,.int .i64 p.2.2]] w fun e w' =>∃n r,PutIs m p n r /\ Told3 w w' e n r:=by
 have h1:=fun W (h:Below w.heap.size w W)=>PCheck_any ao ca m W (hA.below h)
 have h2:=fun W=>pnear_any p.1 p.2.1 p.2.2 W
 have B0:=bx2_start w (.slice ao m.length ca) p 41 54
 by_cases e1:¬mchk m=0
 · obtain ⟨n,en,hn⟩:=mchk_bad e1
   have HC:Hid (PutIs m p n []):= .inl ⟨e1,en.symm,rfl⟩
   simp only [en] at h1
   clear e1 en h2
   rcases hn with rfl | rfl
   all_goals
     go_enter Seq.func81,Tryz.ntmps81
     go_wp2_with fail
     refine (h1 _ B0.bel).mono ?_
     rintro e w1 ⟨rfl,hb1⟩
     have g1:=ptw B0.bel hb1
     clear B0 hb1
     go_wp2
     go_ret2
     exact ⟨_,_,HC.out,_,rfl,nil3 _ _,g1⟩
 rw [Decidable.not_not] at e1
 simp only [e1] at h1
 obtain ⟨la,_,na⟩:=mchk_good e1
 have HE1:Hid (mchk m=0):=e1
 have HNA:Hid (∀p∈m,NearP p):=na
 clear e1 na
 by_cases e2:¬NearP p
 · have HC:Hid (PutIs m p 5 []):= .inr (.inl ⟨HE1.out,e2,rfl,rfl⟩)
   rw [show nr3 p.1 p.2.1 p.2.2=false from by rw [<- Bool.not_eq_true,nr3_iff];exact e2] at h2
   clear e2
   go_enter Seq.func81,Tryz.ntmps81
   go_wp2_with fail
   refine (h1 _ B0.bel).mono ?_
   rintro e w1 ⟨rfl,hb1⟩
   have B1:=B0.below hb1
   have d0:=B1.p0
   have d1:=B1.p1
   have d2:=B1.p2
   have g1:=B1.bel
   clear B0 hb1 B1
   go_wp2_with fail
   refine (h2 _).mono ?_
   rintro e w2 ⟨rfl,hb2⟩
   have g2:=ptw g1 hb2
   clear g1 hb2 d0 d1 d2
   go_wp2
   go_ret2
   exact ⟨_,_,HC.out,_,rfl,nil3 _ _,g2⟩
 rw [Classical.not_not] at e2
 rw [(nr3_iff _).2 e2] at h2
 have HE2:Hid (NearP p):=e2
 clear e2
 obtain ⟨i0,hi,hz0,hz1,hz2⟩:=info_parts Tryz.infoInt
 have hmf:∀(fn:Fn) (first cap:Array Value) (w:World),(Instr.makeFunc fn first cap).run Seq.prog w= .ok (.func fn first cap) w:=fun _ _ _ _=>rfl
 have HLN:Hid ((turnsOf m++[p.1,p.2.1]).length=2*m.length+2):=by show _=_;rw [List.length_append,turnsOf_length];rfl
 have hgo:Hid (∀w2,Bx2 w w2 (.slice ao m.length ca) p -> ∀W gg cap1,W.ownsRow w2.heap.size 3 1 (.slice (some ⟨gg,0,none⟩) (2*m.length+2) cap1) (2*m.length+2) ((turnsOf m).map (Value.int .i64)++[.int .i64 p.1,.int .i64 p.2.1]) -> Below w2.heap.size w2 W ->
     Calls Seq.prog 42 #[.slice (some ⟨gg,0,none⟩) (2*m.length+2) cap1,.func (.func 112) #[] #[.pointer (some ⟨w.heap.size+1,0,none⟩),.pointer (some ⟨w.heap.size,0,none⟩)]] W fun e w' =>∃n r v',PutIs m p n r /\ e= .returned (.tuple #[v',.int .i64 n]) /\ w'.ownsRow w.heap.size 54 3 v' r.length (enc3 r) /\ Below w2.heap.size w2 w'):=by
   intro w2 B2 W gg cap1 hv hbW
   have hp:∀t wq,Below w2.heap.size w2 wq -> Calls Seq.prog 112 (#[.int .i64 t]++#[.pointer (some ⟨w.heap.size+1,0,none⟩),.pointer (some ⟨w.heap.size,0,none⟩)]) wq fun e w' =>(∃x,e= .returned (.tuple #[.int .i64 x,.bool (putF m p t).isSome]) /\ ∀y,putF m p t=some y -> x=y) /\ Below wq.heap.size wq w':=by
     intro t wq hq
     have Bq:=B2.below hq
     exact put1_any w.heap.size (w.heap.size+1) ao ca m p t wq (hA.below Bq.bel) la Bq.c1 Bq.p0 Bq.p1 Bq.p2
   have hbl:=build_own 112 _ (putF m p) (enters_of Seq.func112 (by kernel_rfl) rfl) w2 W hbW hp gg cap1 (turnsOf m++[p.1,p.2.1]) (by rw [HLN.out,List.map_append];exact hv) (by rw [HLN.out];omega)
   rw [HLN.out] at hbl
   refine hbl.mono ?_
   rintro e w' ⟨n,r,v',hM,rfl,ho,hb⟩
   exact ⟨n,r,v',.inr (.inr ⟨HE1.out,HE2.out,hM⟩),rfl,ownsRow_base ho B2.bel.size,hb⟩
 have HPA:Hid (∀W,Below w.heap.size w W -> PcAt W ao m):=fun W h=>hA.below h
 clear hA
 go_enter Seq.func81,Tryz.ntmps81
 go_wp2_with fail
 refine (h1 _ B0.bel).mono ?_
 rintro e w1 ⟨rfl,hb1⟩
 have B1:=B0.below hb1
 have d0:=B1.p0
 have d1:=B1.p1
 have d2:=B1.p2
 clear B0 hb1
 go_wp2_with fail
 refine (h2 _).mono ?_
 rintro e w2 ⟨rfl,hb2⟩
 have B2:=B1.below hb2
 clear hb2 B1 h1 h2 d0 d1 d2
 have cc1:=B2.c1
 have d0:=B2.p0
 have d1:=B2.p1
 have HL:=B2.lt
 have HBel:Hid (Below w.heap.size w w2):=B2.bel
 have hEA:Hid (∀W,Below w2.heap.size w2 W -> Calls Seq.prog 43 #[.slice ao m.length ca] W fun e w' =>∃g,e= .returned (.slice (some ⟨g,0,none⟩) (2*m.length) (2*m.length)) /\ w'.ownsRow w2.heap.size 3 1 (.slice (some ⟨g,0,none⟩) (2*m.length) (2*m.length)) (2*m.length) ((turnsOf m).map (Value.int .i64)) /\ Below W.heap.size W w'):=fun W h=>
   (pbounds_any ao ca m W (HPA.out W (ptw B2.bel h)) la).mono fun e w' ⟨g,he,ho,hb⟩=>⟨g,he,ownsRow_base ho h.size,hb⟩
 have hl1:w.heap.size<w2.heap.size:=by omega
 have HGF:=hide3 (hgo.out w2 B2)
 clear B2 hgo HPA
 go_wp2_with fail
 go_region_held3 (fun w' => w'.cell? ⟨w.heap.size, 0, none⟩ = some (.slice ao m.length ca) /\ w'.cell? ⟨w.heap.size + 1, 0, none⟩ = some (.int .i64 p.1) /\ w'.cell? ⟨w.heap.size + 1, 1, none⟩ = some (.int .i64 p.2.1))
   (first | go_keep | (refine ⟨?_,?_,?_⟩<;>assumption))
   (first
     | (go_at_call 43;refine (hEA.out _ (by first | exact (Below.refl _ _).drew | exact ((Below.refl _ _).alloc (Nat.le_refl _) _).drew)).mono ?_;rintro e w3 ⟨g1,rfl,hownA,hb3⟩;have hb3' :Below w2.heap.size w2 w3:=(by first | exact ptw (Below.refl _ _).drew hb3 | exact ptw ((pal w2 _).drew) hb3);have k1:=(hb3'.cell (p:=⟨w.heap.size,0,none⟩) hl1).trans cc1;have k2:=(hb3'.cell (p:=⟨w.heap.size+1,0,none⟩) HL).trans d0;have k3:=(hb3'.cell (p:=⟨w.heap.size+1,1,none⟩) HL).trans d1)
     | (go_at_call 42;refine (HGF.out _ _ _ hown5 hb5').mono ?_;rintro e w6 ⟨n6,r6,v6,hM6,rfl,ho6,hb6⟩;have k16:=(hb6.cell (p:=⟨w.heap.size,0,none⟩) hl1).trans cc1;have k26:=(hb6.cell (p:=⟨w.heap.size+1,0,none⟩) HL).trans d0;have k36:=(hb6.cell (p:=⟨w.heap.size+1,1,none⟩) HL).trans d1)
     | (revert hb3;intro hb3;refine step_append_row _ (by rfl) _ _ _ (by rfl) w2.heap.size 3 i0 _ 1 8 ((Seq.pu 37).trans Tryz.underlying37) hi hz0 hz1 hz2 rfl Nat.one_pos g1 (2*m.length) (2*m.length) ((turnsOf m).map (Value.int .i64)) (by rfl) (World.ownsRow.alloc (w:=w3) hownA _) ⟨w3.heap.size,0,none⟩ 2 2 [.int .i64 p.1,.int .i64 p.2.1] (by rfl) (by rfl) (World.news_of_block (cs:=#[.int .i64 p.1,.int .i64 p.2.1]) (t:=3) (fr:=(0,0)) (heap_alloc_new w3 _)) (by simp [Value.oneCell']) (by unfold maxLen;omega) (by omega) (by have:=hb3'.size;simp;omega) ?_;intro gg cap1 w5 hown5 hgrow;have hb5' :Below w2.heap.size w2 w5:=(hb3'.alloc hb3'.size _).grown hgrow (by have:=hb3'.size;simp;omega) (fun j hj=>by cases hj;exact (hownA.lt g1 rfl).1);have k15:=(hb5'.cell (p:=⟨w.heap.size,0,none⟩) hl1).trans cc1;have k25:=(hb5'.cell (p:=⟨w.heap.size+1,0,none⟩) HL).trans d0;have k35:=(hb5'.cell (p:=⟨w.heap.size+1,1,none⟩) HL).trans d1)
     | (revert hb3;intro hb3;refine step_append_row _ (by rfl) _ _ _ (by rfl) w2.heap.size 3 i0 _ 1 8 ((Seq.pu 37).trans Tryz.underlying37) hi hz0 hz1 hz2 rfl Nat.one_pos g1 (2*m.length) (2*m.length) ((turnsOf m).map (Value.int .i64)) (by rfl) hownA ⟨w2.heap.size,0,none⟩ 2 2 [.int .i64 p.1,.int .i64 p.2.1] (by rfl) (by rfl) (World.news_of_block (cs:=#[.int .i64 p.1,.int .i64 p.2.1]) (t:=3) (fr:=(0,0)) ((hb3.block w2.heap.size (by simp)).trans (heap_alloc_new w2 _))) (by simp [Value.oneCell']) (by unfold maxLen;omega) (by omega) hb3'.size ?_;intro gg cap1 w5 hown5 hgrow;have hb5' :Below w2.heap.size w2 w5:=hb3'.grown hgrow hb3'.size (fun j hj=>by cases hj;exact (hownA.lt g1 rfl).1);have k15:=(hb5'.cell (p:=⟨w.heap.size,0,none⟩) hl1).trans cc1;have k25:=(hb5'.cell (p:=⟨w.heap.size+1,0,none⟩) HL).trans d0;have k35:=(hb5'.cell (p:=⟨w.heap.size+1,1,none⟩) HL).trans d1))
 all_goals
   have HM6:Hid (PutIs m p n6 r6):=hM6
   have hbF:Below w.heap.size w w6:=ptw HBel.out hb6
   clear hM6 hb6
   go_wp2
   go_ret2
   exact ⟨n6,r6,HM6.out,v6,rfl,ho6,hbF⟩
def MsAt (w:World) (ao:Option Addr) (n:Nat) (m:Nat -> List P3):Prop:=
 n=0 \/ ∃b off,ao=some ⟨b,off,none⟩ /\ b<w.heap.size /\ ∀v,v<n -> ∃a c,w.cell? ⟨b,off+v,none⟩=some (.slice a (m v).length c) /\ PcAt w a (m v)
theorem MsAt.below {w w' :World} {ao:Option Addr} {n:Nat} {m:Nat -> List P3} (h:MsAt w ao n m) (hb:Below w.heap.size w w'):MsAt w' ao n m:=by
 rcases h with h | ⟨b,off,rfl,hlt,hc⟩
 · exact .inl h
 · refine .inr ⟨b,off,rfl,Nat.lt_of_lt_of_le hlt hb.size,fun v hv=> ?_⟩
   obtain ⟨a,c,h1,h2⟩:=hc v hv
   exact ⟨a,c,by rw [hb.cell (p:=⟨b,off+v,none⟩) hlt];exact h1,h2.below hb⟩
theorem MsAt.at1 {w:World} {ao:Option Addr} {n:Nat} {m:Nat -> List P3} (h:MsAt w ao n m) {v:Nat} (hv:v<n):∃b off a c,ao=some ⟨b,off,none⟩ /\ b<w.heap.size /\ w.cell? ⟨b,off+v,none⟩=some (.slice a (m v).length c) /\ PcAt w a (m v):=by
 rcases h with h | ⟨b,off,rfl,hlt,hc⟩
 · omega
 · obtain ⟨a,c,h1,h2⟩:=hc v hv
   exact ⟨b,off,a,c,rfl,hlt,h1,h2⟩
theorem AM.read {W:World} {base go n:Nat} {val:Nat -> Value} {pcs:Nat -> List P3} (A:AM W base go n val pcs):MsAt W (some ⟨go,0,none⟩) n pcs:=by
 refine .inr ⟨go,0,rfl,(World.ownsRow.lt A.own go rfl).2,fun v hv=> ?_⟩
 obtain ⟨a,c,h1,h2⟩:=pcAt_of_owns (A.inn v hv)
 exact ⟨a,c,by rw [Nat.zero_add,A.out hv,h1],h2⟩
theorem AM.set {W W1:World} {base go n:Nat} {val:Nat -> Value} {pcs:Nat -> List P3} (A:AM W base go n val pcs) {v:Nat} (hv:v<n) (hb:Below W.heap.size W W1) {v' :Value} {r:List P3} (hbase:base <= W.heap.size) (h5:W1.ownsRow W.heap.size 54 3 v' r.length (enc3 r)):AM (W1.setCell ⟨go,v,none⟩ v') base go n (updF val v v') (updF pcs v r):=by
 have A1:=A.below hb
 have h6:=owns_base2 h5 hbase
 have o2:=(World.ownsRow.stored A1.own v v').1
 rw [map_updF] at o2
 have hgo:v'.ownBlock≠some go:=by
   rcases owns_apart h6 A1.own (by decide) with e | e
   · rw [e];intro h;cases h
   · exact e
 refine ⟨o2,fun i hi=> ?_,fun i i' hi hi' hne=> ?_⟩
 · by_cases e:i=v
   · subst e
     rw [updF_same,updF_same]
     exact ownsRow_setBox h6 hgo
   · rw [updF_far _ _ e,updF_far _ _ e]
     exact ownsRow_setBox (A1.inn i hi) (A1.far hi)
 · by_cases e:i=v
   · subst e
     rw [updF_same,updF_far _ _ (fun h=>hne h.symm)]
     cases hq:v'.ownBlock with
     | none=>exact .inl rfl
     | some q=>
       right
       intro h
       have h2:=((A.inn i' hi').lt q h.symm).2
       have h3:=(h5.lt q hq).1
       omega
   · rw [updF_far _ _ e]
     by_cases e' :i' =v
     · subst e'
       rw [updF_same]
       cases hq:(val i).ownBlock with
       | none=>exact .inl rfl
       | some q=>
         right
         intro h
         have h2:=((A.inn i hi).lt q hq).2
         have h3:=(h5.lt q h.symm).1
         omega
     · rw [updF_far _ _ e'];exact A.ap i i' hi hi' hne
theorem inR3_no {p:Int} (h:inR p 1 3=false):(p !=1)=true /\ (p !=2)=true /\ (p !=3)=true:=by
 have:¬(1 <= p /\ p <= 3):=fun h2=>by rw [(inR_iff p 1 3).2 h2] at h;cases h
 simp;omega
set_option maxRecDepth 100000 in
set_option maxHeartbeats 2000000 in
theorem bsCheck_any (g:Gr) (la ea:Option Addr) (lc ec:Nat) (p v:Int) (w:World) (hG:GAt w la ea g):
   Calls Seq.prog 48 #[.agg #[.int .i64 g.hor,.slice la g.lives.length lc,.slice ea g.edges.length ec],.int .i64 p,.int .i64 v] w fun r w' =>r= .returned (.int .i64 (askE g p v)) /\ Below w.heap.size w w':=by
 have B0:=gbox_start w g la ea lc ec 25
 have h1:=gCheck_any g la ea lc ec _ (hG.below B0.bel)
 by_cases e1:gChk g=0
 · have HP:Hid (askE g p v=if inR p 1 3=true then if p=3 then 0 else if inR v 0 ((g.lives.length:Int)- 1)=true then 0 else 4 else 1):=by show _=_;unfold askE;rw [if_pos e1]
   have hvx:=fun W=>gHasV_any g.hor la ea g.lives.length lc g.edges.length ec v W (gChk_right e1).lvs
   rw [e1] at h1
   clear hG e1
   cases q1:inR p 1 3 with
   | false=>
     rw [q1] at HP
     obtain ⟨d1,d2,d3⟩:=inR3_no q1
     clear q1
     go_enter Seq.func48,Tryz.ntmps48
     go_wp2_with fail
     refine h1.mono ?_
     rintro e w1 ⟨rfl,hb1⟩
     have hbF:=(B0.below hb1).bel
     clear h1 hb1 B0
     go_wp2
     go_ret
     exact ⟨ret_int HP.out.symm,by assumption⟩
   | true=>
     rw [q1] at HP
     have hp3:=(inR_iff p 1 3).1 q1
     clear q1
     by_cases h3:p=3
     · have HP3:Hid (askE g p v=0):=by show _=_;rw [HP.out,if_pos rfl,if_pos h3]
       subst h3
       clear HP hp3
       go_enter Seq.func48,Tryz.ntmps48
       go_wp2_with fail
       refine h1.mono ?_
       rintro e w1 ⟨rfl,hb1⟩
       have hbF:=(B0.below hb1).bel
       clear h1 hb1 B0
       go_wp2
       go_ret
       exact ⟨ret_int HP3.out.symm,by assumption⟩
     · have HP3:Hid (askE g p v=if inR v 0 ((g.lives.length:Int)- 1)=true then 0 else 4):=by show _=_;rw [HP.out,if_pos rfl,if_neg h3]
       clear HP
       have hp2:p=1 \/ p=2:=by omega
       clear h3 hp3
       cases hV:inR v 0 ((g.lives.length:Int)- 1)<;>rw [hV] at HP3 hvx
       all_goals
         clear hV
         rcases hp2 with rfl | rfl
         all_goals
           go_enter Seq.func48,Tryz.ntmps48
           go_wp2_with fail
           refine h1.mono ?_
           rintro e w1 ⟨rfl,hb1⟩
           have B1:=B0.below hb1
           have cc0:=B1.c0
           have cc1:=B1.c1
           have cc2:=B1.c2
           clear h1 hb1 B0
           go_wp2_with fail
           refine (hvx _).mono ?_
           rintro e w2 ⟨rfl,hb2⟩
           have hbF:=(B1.below hb2).bel
           clear hvx hb2 B1 cc0 cc1 cc2
           go_wp2
           go_ret
           exact ⟨ret_int HP3.out.symm,by assumption⟩
 · have HP:Hid (askE g p v=gChk g):=by show _=_;unfold askE;rw [if_neg e1]
   have d1:(gChk g !=0)=true:=by simpa using e1
   clear hG e1
   generalize gChk g=z at*
   go_enter Seq.func48,Tryz.ntmps48
   go_wp2_with fail
   refine h1.mono ?_
   rintro e w1 ⟨rfl,hb1⟩
   have hbF:=(B0.below hb1).bel
   clear h1 hb1 B0
   go_wp2
   go_ret
   exact ⟨ret_int HP.out.symm,by assumption⟩
def noneB (n:Nat) (m:Nat -> List P3):Bool:=decide (∀v,v<n -> m v=[])
set_option maxRecDepth 100000 in
set_option maxHeartbeats 2000000 in
theorem bsEmpty_any (ao:Option Addr) (n cap:Nat) (m:Nat -> List P3) (w:World) (hM:MsAt w ao n m) (hn:n <= 12):
   Calls Seq.prog 55 #[.slice ao n cap] w fun r w' =>r= .returned (.bool (noneB n m)) /\ Below w.heap.size w w':=by
 go_enter Seq.func55,Tryz.ntmps55
 go_wp2
 go_loopw [7] (fun i wr=>∃k:Nat,k <= n /\ i= .int .i64 k /\ (∀v,v<k -> m v=[]) /\ Below w.heap.size w wr) (fun i _=>n-(intOf i).toNat)
 case atStart=>exact ⟨0,Nat.zero_le _,rfl,fun v hv=>by omega,Below.refl _ _⟩
 case round=>
   obtain ⟨k,hk,rfl,hI,hb⟩:=hrel
   have HI:=hideg hI
   have HB:=hideg hb
   clear hI
   by_cases hlt:k<n
   · obtain ⟨b,off,a,c,rfl,hbl,c0,hp⟩:=(hM.below hb).at1 hlt
     have hk2:(k:Int)<(n:Int):=by omega
     clear hb hp
     by_cases e:(m k).length=0
     · have HS:Hid (∀v,v<k+1 -> m v=[]):=by
         intro v hv
         by_cases ev:v=k
         · subst ev;exact List.eq_nil_of_length_eq_zero e
         · exact HI.out v (by omega)
       rw [e] at c0
       clear e
       go_wp2
       go_roundw
       case rel=>exact ⟨k+1,by omega,by go_num,HS.out,HB.out⟩
       case measure=>simp [intOf];omega
     · have HC:Hid (noneB n m=false):=by
         show _=_
         unfold noneB
         rw [decide_eq_false_iff_not]
         intro h
         rw [h k hlt] at e
         exact e rfl
       have hpos:(0:Int)<((m k).length:Int):=by omega
       clear e
       generalize (m k).length=L at*
       go_wp2
       go_ret
       exact ⟨ret_bool HC.out.symm,HB.out⟩
   · have hkn:k=n:=by omega
     subst hkn
     have HC:Hid (noneB k m=true):=by
       show _=_
       unfold noneB
       rw [decide_eq_true_eq]
       exact HI.out
     clear hb
     go_wp2
     go_ret
     exact ⟨ret_bool HC.out.symm,HB.out⟩
def mixO (how:Int) (o:Option Int) (v:Int):Option Int:=
 match o with
 | none=>some v
 | some x=>some (both how x v)
def mix (how:Int) (l:List (Int×Int×Int)) (t:Int):Option Int:=l.foldl (fun o p=>if inP p t then mixO how o p.2.2 else o) none
theorem mix_snoc (how:Int) (l:List (Int×Int×Int)) (p:Int×Int×Int) (t:Int):mix how (l++[p]) t=if inP p t then mixO how (mix how l t) p.2.2 else mix how l t:=by
 unfold mix;rw [List.foldl_append];rfl
theorem mix_take {how:Int} {l:List (Int×Int×Int)} {k:Nat} {t:Int} (hk:k<l.length):mix how (l.take (k+1)) t=if inP l[k] t then mixO how (mix how (l.take k) t) l[k].2.2 else mix how (l.take k) t:=by
 rw [take_succ_get l k hk,mix_snoc]
theorem mix_bound {how:Int} {l:List (Int×Int×Int)} {t x:Int} (h:∀p∈l,nearB p.2.2) (hk:l.length <= 200) (hx:mix how l t=some x): -200000000000 <= x /\ x <= 200000000000:=by
 have key:∀k,k <= l.length -> ∀x,mix how (l.take k) t=some x -> -(1000000000*(k:Int)) <= x /\ x <= 1000000000*(k:Int):=by
   intro k
   induction k with
   | zero=>intro _ x hx;simp [mix] at hx
   | succ k ih=>
     intro hk x hx
     have hv:=h l[k] (List.getElem_mem (by omega))
     unfold nearB at hv
     rw [mix_take (by omega)] at hx
     split at hx
     · cases hm:mix how (l.take k) t with
       | none=>
         rw [hm] at hx
         simp only [mixO,Option.some.injEq] at hx
         subst hx;omega
       | some y=>
         have:=ih (by omega) y hm
         rw [hm] at hx
         simp only [mixO,Option.some.injEq] at hx
         subst hx
         unfold both
         split
         · omega
         · split<;>omega
     · have:=ih (by omega) x hx;omega
 have:=key l.length (Nat.le_refl _) x (by rw [List.take_length];exact hx)
 omega
theorem mix_bound_take {how:Int} {l:List (Int×Int×Int)} {t x:Int} {k:Nat} (h:∀p∈l,nearB p.2.2) (hk:l.length <= 200) (hx:mix how (l.take k) t=some x): -200000000000 <= x /\ x <= 200000000000:=
 mix_bound (l:=l.take k) (fun p hp=>h p (List.mem_of_mem_take hp)) (by rw [List.length_take];omega) hx
theorem mixO_some (how:Int) (o:Option Int) (v:Int):(mixO how o v).isSome=true:=by cases o<;>rfl
theorem mix_cons_none {how:Int} {l:List (Int×Int×Int)} {t:Int}:mix how l t=none↔∀p∈l,inP p t=false:=by
 have key:∀k,k <= l.length -> (mix how (l.take k) t=none↔∀p∈l.take k,inP p t=false):=by
   intro k
   induction k with
   | zero=>simp [mix]
   | succ k ih=>
     intro hk
     rw [mix_take (by omega),take_succ_get l k (by omega)]
     have ih:=ih (by omega)
     cases hp:inP l[k] t with
     | true=>
       simp only [if_pos]
       constructor
       · intro h;have:=mixO_some how (mix how (l.take k) t) l[k].2.2;rw [h] at this;cases this
       · intro h;have:=h l[k] (List.mem_append.2 (.inr (List.mem_singleton.2 rfl)));rw [hp] at this;cases this
     | false=>
       simp only [Bool.false_eq_true,if_false]
       rw [ih]
       constructor
       · intro h p hm
         rw [List.mem_append] at hm
         rcases hm with hm | hm
         · exact h p hm
         · simp only [List.mem_singleton] at hm;subst hm;exact hp
       · intro h p hm;exact h p (by rw [List.mem_append];exact .inl hm)
 have:=key l.length (Nat.le_refl _)
 rwa [List.take_length] at this
theorem foldl_same {α β:Type} {f g:α -> β -> α} {l:List β} {a:α} (h:∀x∈l,∀a,f a x=g a x):l.foldl f a=l.foldl g a:=by
 induction l generalizing a with
 | nil=>rfl
 | cons x l ih=>rw [List.foldl_cons,List.foldl_cons,h x (by simp),ih fun y hy=>h y (by simp [hy])]
theorem mix_congr {how:Int} {l:List (Int×Int×Int)} {s t:Int} (h:∀p∈l,inP p s=inP p t):mix how l s=mix how l t:=by
 unfold mix;exact foldl_same fun p hp a=>by rw [h p hp]
theorem mix_turns {how:Int} {l:List (Int×Int×Int)} {S:List Int} (h1:∀x∈turnsOf l,x∈S):MTurns S (mix how l):=by
 refine ⟨fun s t hst h=>mix_congr fun p hp=>inP_same hst (h _ (h1 _ (mem_turnsOf hp).1)) (h _ (h1 _ (mem_turnsOf hp).2)),fun t h=> ?_,fun t h=> ?_⟩
 · exact mix_cons_none.2 fun p hp=>inP_low (h _ (h1 _ (mem_turnsOf hp).1))
 · exact mix_cons_none.2 fun p hp=>inP_high (h _ (h1 _ (mem_turnsOf hp).2))
def GoodM (p:Int×Int×Int):Prop:=NearP p /\ p.1<p.2.1
def goodMDec (l:List (Int×Int×Int)):Decidable (∀p∈l,GoodM p):=by unfold GoodM NearP nearB;infer_instance
def lchk (l:List (Int×Int×Int)):Int:=if 200<l.length then 2 else @ite Int (∀p∈l,GoodM p) (goodMDec l) 0 5
theorem lchk_large {l:List (Int×Int×Int)} (h:200<l.length):lchk l=2:=by simp [lchk,h]
theorem lchk_ok {l:List (Int×Int×Int)} (h:l.length <= 200) (hn:∀p∈l,GoodM p):lchk l=0:=by
 unfold lchk;rw [if_neg (by omega),if_pos hn]
theorem lchk_no {l:List (Int×Int×Int)} {p:Int×Int×Int} (h:l.length <= 200) (hp:p∈l) (hn:¬GoodM p):lchk l=5:=by
 unfold lchk;rw [if_neg (by omega),if_neg (fun hh=>hn (hh p hp))]
theorem lchk_cases (l:List (Int×Int×Int)):(lchk l=2 \/ lchk l=5) \/ (lchk l=0 /\ l.length <= 200 /\ ∀p∈l,GoodM p):=by
 unfold lchk
 by_cases h:200<l.length
 · exact .inl (.inl (by rw [if_pos h]))
 · rw [if_neg h]
   by_cases hn:∀p∈l,GoodM p
   · exact .inr ⟨by rw [if_pos hn],by omega,hn⟩
   · exact .inl (.inr (by rw [if_neg hn]))
abbrev Cl:=Int×Int×Int×Bool×Int
def cellAt (m l:List (Int×Int×Int)) (how:Int) (s t:Int):List Cl:=
 match mix how l s with
 | none=>[]
 | some v=>[(s,t,(tel m s).getD 0,(tel m s).isSome,v)]
def cellsTo (m l:List (Int×Int×Int)) (how:Int) (S:List Int):Nat -> List Cl
 | 0=>[]
 | i+1=>cellsTo m l how S i++cellAt m l how (S.getD i 0) (S.getD (i+1) 0)
theorem cellAt_len (m l:List (Int×Int×Int)) (how s t:Int):(cellAt m l how s t).length <= 1:=by unfold cellAt;split<;>simp
theorem cellsTo_len (m l:List (Int×Int×Int)) (how:Int) (S:List Int) (i:Nat):(cellsTo m l how S i).length <= i:=by
 induction i with
 | zero=>simp [cellsTo]
 | succ i ih=>have:=cellAt_len m l how (S.getD i 0) (S.getD (i+1) 0);rw [cellsTo,List.length_append];omega
theorem cellsTo_no {m l:List (Int×Int×Int)} {how:Int} {S:List Int} {i:Nat} (hi:i<S.length) (h:mix how l S[i]=none):cellsTo m l how S (i+1)=cellsTo m l how S i:=by
 rw [cellsTo,cellAt,getD_get' hi,h,List.append_nil]
theorem cellsTo_yes {m l:List (Int×Int×Int)} {how:Int} {S:List Int} {i:Nat} {v:Int} (hi:i+1<S.length) (h:mix how l S[i]=some v):cellsTo m l how S (i+1)=cellsTo m l how S i++[(S[i],S[i+1],(tel m S[i]).getD 0,(tel m S[i]).isSome,v)]:=by
 rw [cellsTo,cellAt,getD_get' (by omega:i<S.length),getD_get' hi,h]
theorem cellsTo_mem {m l:List (Int×Int×Int)} {how:Int} {S:List Int} {i:Nat} {c:Cl} (hi:i+1 <= S.length \/ i=0) (h:c∈cellsTo m l how S i):∃j,∃hj:j+1<S.length,j<i /\ ∃v,mix how l S[j]=some v /\ c=(S[j],S[j+1],(tel m S[j]).getD 0,(tel m S[j]).isSome,v):=by
 induction i with
 | zero=>simp [cellsTo] at h
 | succ i ih=>
   have hi' :i+1<S.length:=by omega
   cases hm:mix how l S[i] with
   | none=>
     rw [cellsTo_no (by omega) hm] at h
     obtain ⟨j,hj,h1,h2⟩:=ih (by omega) h
     exact ⟨j,hj,by omega,h2⟩
   | some v=>
     rw [cellsTo_yes hi' hm,List.mem_append] at h
     rcases h with h | h
     · obtain ⟨j,hj,h1,h2⟩:=ih (by omega) h
       exact ⟨j,hj,by omega,h2⟩
     · simp only [List.mem_singleton] at h
       exact ⟨i,hi',by omega,v,hm,h⟩
def CellsIs (m l:List (Int×Int×Int)) (how:Int) (n:Int) (r:List Cl):Prop:=
 ∃S,Ordered (turnsOf m++turnsOf l) S /\ ((¬(∀c∈cellsTo m l how S (S.length- 1),nearB c.2.2.2.2) /\ n=5 /\ r=[]) \/ ((∀c∈cellsTo m l how S (S.length- 1),nearB c.2.2.2.2) /\ 200<(cellsTo m l how S (S.length- 1)).length /\ n=2 /\ r=[]) \/ ((∀c∈cellsTo m l how S (S.length- 1),nearB c.2.2.2.2) /\ (cellsTo m l how S (S.length- 1)).length <= 200 /\ n=0 /\ r=cellsTo m l how S (S.length- 1)))
def who (l:List (Int×Int×Int)) (t:Int) (k:Nat):List Nat:=(List.range k).filter fun i=>inP (l.getD i (0,0,0)) t
theorem hideW {p:Prop} (h:p):Hid p:=h
theorem goodM_take_succ {m:List (Int×Int×Int)} {k:Nat} (hk:k<m.length) (h:∀q∈m.take k,GoodM q) (h1:GoodM m[k]):∀q∈m.take (k+1),GoodM q:=by
 intro q hq
 rw [take_succ_get m k hk,List.mem_append,List.mem_singleton] at hq
 rcases hq with hq | rfl
 · exact h q hq
 · exact h1
set_option maxRecDepth 100000 in
set_option maxHeartbeats 2000000 in
theorem wcheck_any (ao:Option Addr) (cap:Nat) (l:List (Int×Int×Int)) (w:World) (hl:PcAt w ao l):
   Calls Seq.prog 126 #[.slice ao l.length cap] w fun e w' =>e= .returned (.int .i64 (lchk l)) /\ Below w.heap.size w w':=by
 by_cases h2:200<l.length
 · have HC:Hid (lchk l=2):=lchk_large h2
   go_enter Seq.func126,Tryz.ntmps126
   go_wp2
   go_ret
   exact ⟨ret_int HC.out.symm,Below.refl _ _⟩
 · have h3:l.length <= 200:=by omega
   go_enter Seq.func126,Tryz.ntmps126
   go_wp2
   go_loopw [10] (fun i wr=>∃k:Nat,k <= l.length /\ i= .int .i64 k /\ (∀q∈l.take k,GoodM q) /\ Below w.heap.size w wr) (fun i _=>l.length-(intOf i).toNat)
   case atStart=>exact ⟨0,Nat.zero_le _,rfl,fun q hq=>by simp at hq,Below.refl _ _⟩
   case round=>
     obtain ⟨k,hk,rfl,hn,hb⟩:=hrel
     have HN:=hideW hn
     clear hn
     by_cases hlt:k<l.length
     · rcases hl.below hb with h0 | ⟨b,off,rfl,hbw,hc⟩
       · subst h0;simp at hlt
       obtain ⟨c0,c1,c2⟩:=PcAt.get hlt hc
       have HB:=hideW (fun o o' =>ptw (ptw hb (pal wr o)) (pal (wr.alloc o) o'))
       clear hc hl hb
       by_cases n1:NearP l[k]
       · have e1:(nrB l[k].1&&(nrB l[k].2.1&&nrB l[k].2.2))=true:=(nr3_iff l[k]).2 n1
         by_cases g1:l[k].2.1 <= l[k].1
         · have HC:Hid (lchk l=5):=lchk_no h3 (List.getElem_mem hlt) (fun h=>by have:=h.2;omega)
           have d1:decide (l[k].2.1 <= l[k].1)=true:=by simpa using g1
           clear n1 g1
           go_wp2_with fail
           refine (Near_three (wr.heap.size+1) l[k].1 l[k].2.1 l[k].2.2 _ (by simp) (by simp) (by simp) (by simp)).mono ?_
           rintro e w1 ⟨rfl,rfl⟩
           rw [e1]
           go_wp2
           go_ret
           exact ⟨ret_int HC.out.symm,HB.out _ _⟩
         · have HS:=hideW (goodM_take_succ hlt HN.out ⟨n1,by omega⟩)
           have d1:decide (l[k].2.1 <= l[k].1)=false:=by simpa using g1
           clear n1 g1
           go_wp2_with fail
           refine (Near_three (wr.heap.size+1) l[k].1 l[k].2.1 l[k].2.2 _ (by simp) (by simp) (by simp) (by simp)).mono ?_
           rintro e w1 ⟨rfl,rfl⟩
           rw [e1]
           go_wp2
           go_roundw
           case rel=>exact ⟨k+1,by omega,by go_num,HS.out,HB.out _ _⟩
           case measure=>simp [intOf];omega
       · have HC:Hid (lchk l=5):=lchk_no h3 (List.getElem_mem hlt) (fun h=>n1 h.1)
         have e1:(nrB l[k].1&&(nrB l[k].2.1&&nrB l[k].2.2))=false:=by
           have:=nr3_iff l[k]
           unfold nr3 at this
           rw [<- Bool.not_eq_true,this];exact n1
         clear n1
         go_wp2_with fail
         refine (Near_three (wr.heap.size+1) l[k].1 l[k].2.1 l[k].2.2 _ (by simp) (by simp) (by simp) (by simp)).mono ?_
         rintro e w1 ⟨rfl,rfl⟩
         rw [e1]
         go_wp2
         go_ret
         exact ⟨ret_int HC.out.symm,HB.out _ _⟩
     · have hkl:k=l.length:=by omega
       have HC:Hid (lchk l=0):=lchk_ok h3 (by have:=HN.out;rwa [hkl,List.take_length] at this)
       subst hkl
       go_wp2
       go_ret
       exact ⟨ret_int HC.out.symm,hb⟩
def cbChk (l:List (Int×Int×Int)) (how:Int):Int:=if lchk l=0 then if isHow how=true then 0 else 1 else lchk l
theorem cbChk_bad {l:List (Int×Int×Int)} {how:Int} (h:¬cbChk l how=0):∃n,cbChk l how=n /\ (n=1 \/ n=2 \/ n=5):=by
 unfold cbChk at h ⊢
 rcases lchk_cases l with (e | e) | ⟨e,_⟩
 · rw [e];exact ⟨2,rfl,.inr (.inl rfl)⟩
 · rw [e];exact ⟨5,rfl,.inr (.inr rfl)⟩
 · rw [e] at h ⊢
   by_cases hh:isHow how=true
   · simp [hh] at h
   · exact ⟨1,by simp [hh],.inl rfl⟩
theorem cbChk_good {l:List (Int×Int×Int)} {how:Int} (h:cbChk l how=0):l.length <= 200 /\ (∀p∈l,GoodM p) /\ (how=1 \/ how=2 \/ how=3) /\ lchk l=0:=by
 unfold cbChk at h
 rcases lchk_cases l with (e | e) | ⟨e,h1,h2⟩
 · rw [e] at h;simp at h
 · rw [e] at h;simp at h
 · rw [e] at h
   by_cases hh:isHow how=true
   · unfold isHow at hh;rw [decide_eq_true_eq] at hh;exact ⟨h1,h2,hh,e⟩
   · simp [hh] at h
set_option maxRecDepth 100000 in
theorem checkBoth_any (ao:Option Addr) (cap:Nat) (l:List (Int×Int×Int)) (how:Int) (w:World) (hl:PcAt w ao l):
   Calls Seq.prog 109 #[.slice ao l.length cap,.int .i64 how] w fun e w' =>e= .returned (.int .i64 (cbChk l how)) /\ Below w.heap.size w w':=by
 have hck:=wcheck_any ao cap l w hl
 have hJ:=fun W=>joins_any how W
 clear hl
 rcases lchk_cases l with (e | e) | ⟨e,_⟩
 · have HC:Hid (cbChk l how=2):=by show _=_;unfold cbChk;rw [e];rfl
   rw [e] at hck
   clear e hJ
   go_enter Seq.func109,Tryz.ntmps109
   go_wp2_with fail
   refine hck.mono ?_
   rintro e w1 ⟨rfl,hb1⟩
   go_wp2
   go_ret
   exact ⟨ret_int HC.out.symm,hb1⟩
 · have HC:Hid (cbChk l how=5):=by show _=_;unfold cbChk;rw [e];rfl
   rw [e] at hck
   clear e hJ
   go_enter Seq.func109,Tryz.ntmps109
   go_wp2_with fail
   refine hck.mono ?_
   rintro e w1 ⟨rfl,hb1⟩
   go_wp2
   go_ret
   exact ⟨ret_int HC.out.symm,hb1⟩
 · have HC:Hid (cbChk l how=if isHow how=true then 0 else 1):=by show _=_;unfold cbChk;rw [e];rfl
   rw [e] at hck
   clear e
   cases hh:isHow how with
   | true=>
     rw [hh] at HC hJ
     clear hh
     go_enter Seq.func109,Tryz.ntmps109
     go_wp2_with fail
     refine hck.mono ?_
     rintro e w1 ⟨rfl,hb1⟩
     go_wp2_with (go_at_call 41;refine (hJ _).mono ?_;rintro e w' ⟨rfl,rfl⟩)
     go_ret
     exact ⟨ret_int HC.out.symm,by assumption⟩
   | false=>
     rw [hh] at HC hJ
     clear hh
     go_enter Seq.func109,Tryz.ntmps109
     go_wp2_with fail
     refine hck.mono ?_
     rintro e w1 ⟨rfl,hb1⟩
     go_wp2_with (go_at_call 41;refine (hJ _).mono ?_;rintro e w' ⟨rfl,rfl⟩)
     go_ret
     exact ⟨ret_int HC.out.symm,by assumption⟩
set_option maxRecDepth 100000 in
set_option maxHeartbeats 4000000 in
theorem wtogether_any (ao:Option Addr) (cap:Nat) (l:List (Int×Int×Int)) (t how:Int) (w:World) (hl:PcAt w ao l) (h3:l.length <= 200) (hg:∀p∈l,GoodM p) (hh:how=1 \/ how=2 \/ how=3):
   Calls Seq.prog 128 #[.slice ao l.length cap,.int .i64 t,.int .i64 how] w fun e w' =>e= .returned (.tuple #[.int .i64 ((mix how l t).getD 0),.bool (mix how l t).isSome]) /\ Below w.heap.size w w':=by
 have HG:=hideW hg
 clear hg
 go_enter Seq.func128,Tryz.ntmps128
 go_wp2
 go_loopw [8,9,14] (fun v s i wr=>∃k:Nat,k <= l.length /\ i= .int .i64 k /\ v= .int .i64 ((mix how (l.take k) t).getD 0) /\ s= .bool (mix how (l.take k) t).isSome /\ Below w.heap.size w wr) (fun _ _ i _=>l.length-(intOf i).toNat)
 case atStart=>exact ⟨0,Nat.zero_le _,rfl,rfl,rfl,Below.refl _ _⟩
 case round=>
   obtain ⟨k,hk,rfl,rfl,rfl,hb⟩:=hrel
   by_cases hlt:k<l.length
   · rcases hl.below hb with h0 | ⟨b,off,rfl,hbw,hc⟩
     · subst h0;simp at hlt
     obtain ⟨c0,c1,c2⟩:=PcAt.get hlt hc
     have HB:=hideW (fun o=>ptw hb (pal wr o))
     have HM:=hideW (mix_take (how:=how) (t:=t) hlt)
     have HBd:=hideW (fun x=>mix_bound_take (how:=how) (t:=t) (x:=x) (k:=k) (fun p hp=>(HG.out p hp).1.2.2) h3)
     have hgk:=HG.out l[k] (List.getElem_mem hlt)
     have hnv:=hideW hgk.1.2.2
     clear hc hl hb hgk
     cases hin:inP l[k] t with
     | false=>
       have HM' :Hid (mix how (l.take (k+1)) t=mix how (l.take k) t):=by show _=_;rw [HM.out,hin];rfl
       generalize mix how (l.take k) t=o at*
       by_cases g1:t<l[k].1
       · have d1:decide (t<l[k].1)=true:=by simpa using g1
         clear hin g1
         go_wp2
         go_roundw
         case rel=>exact ⟨k+1,by omega,by go_num,by rw [HM'.out],by rw [HM'.out],HB.out _⟩
         case measure=>simp [intOf];omega
       · have d1:decide (t<l[k].1)=false:=by simpa using g1
         have d2:decide (l[k].2.1 <= t)=true:=by
           have:¬(inP l[k] t=true):=by rw [hin];decide
           rw [inP_iff] at this
           simp;omega
         clear hin g1
         go_wp2
         go_roundw
         case rel=>exact ⟨k+1,by omega,by go_num,by rw [HM'.out],by rw [HM'.out],HB.out _⟩
         case measure=>simp [intOf];omega
     | true=>
       have HM' :Hid (mix how (l.take (k+1)) t=mixO how (mix how (l.take k) t) l[k].2.2):=by show _=_;rw [HM.out,hin];rfl
       have hi2:=(inP_iff _ _).1 hin
       have d1:decide (t<l[k].1)=false:=by simp;omega
       have d2:decide (l[k].2.1 <= t)=false:=by simp;omega
       clear hin hi2
       cases ho:mix how (l.take k) t with
       | none=>
         rw [ho] at HM'
         have HV:Hid ((mix how (l.take (k+1)) t).getD 0=l[k].2.2 /\ (mix how (l.take (k+1)) t).isSome=true):=by show _ /\ _;rw [HM'.out];exact ⟨rfl,rfl⟩
         clear ho
         simp only [Option.getD_none,Option.isSome_none]
         go_wp2
         go_roundw
         case rel=>exact ⟨k+1,by omega,by go_num,by rw [HV.out.1],by rw [HV.out.2],HB.out _⟩
         case measure=>simp [intOf];omega
       | some x=>
         rw [ho] at HM'
         have hT:=fun W=>join_any x l[k].2.2 how W hh (by have:=HBd.out x ho;unfold wideB;omega) (wide_of_near hnv.out)
         have HV:Hid ((mix how (l.take (k+1)) t).getD 0=both how x l[k].2.2 /\ (mix how (l.take (k+1)) t).isSome=true):=by show _ /\ _;rw [HM'.out];exact ⟨rfl,rfl⟩
         clear ho
         simp only [Option.getD_some,Option.isSome_some]
         generalize both how x l[k].2.2=q at hT HV
         go_wp2_with (go_at_call 45;refine (hT _).mono ?_;rintro e w' ⟨rfl,rfl⟩)
         go_roundw
         case rel=>exact ⟨k+1,by omega,by go_num,by rw [HV.out.1],by rw [HV.out.2],HB.out _⟩
         case measure=>simp [intOf];omega
   · have hkl:k=l.length:=by omega
     subst hkl
     rw [List.take_length]
     go_wp2
     go_ret2
     exact ⟨rfl,hb⟩
set_option maxRecDepth 100000 in
set_option maxHeartbeats 4000000 in
theorem wchanges_any (mo lo:Option Addr) (mc lc:Nat) (m l:List (Int×Int×Int)) (w:World) (hm:PcAt w mo m) (hl:PcAt w lo l) (h3:m.length <= 200) (h4:l.length <= 200):
   Calls Seq.prog 127 #[.slice mo m.length mc,.slice lo l.length lc] w fun e w' =>∃v,e= .returned v /\ w'.ownsRow w.heap.size 3 1 v (turnsOf m++turnsOf l).length ((turnsOf m++turnsOf l).map (Value.int .i64)) /\ Below w.heap.size w w':=by
 obtain ⟨i0,hi,hz0,hz1,hz2⟩:=info_parts Tryz.infoInt
 have hnb:∀(o:Obj) (v:Value) (n:Nat) (xs:List Value) (wr:World),wr.ownsRow w.heap.size 3 1 v n xs -> Below w.heap.size w wr -> ∀(o' :Obj) (w1:World),((wr.alloc o).alloc o').grownBy w1 v.ownBlock -> Below w.heap.size w w1:=fun o v n xs wr ho hb o' w1 hgr=>((hb.alloc hb.size o).alloc (by have:=hb.size;simp;omega) o').grown hgr (by have:=hb.size;simp;omega) (fun j hj=>(ho.lt j hj).1)
 have HNB:=hideW hnb
 clear hnb
 go_enter Seq.func127,Tryz.ntmps127
 go_wp2
 go_loopw [5,12] (fun v i wr=>∃k:Nat,k <= m.length /\ i= .int .i64 k /\ wr.ownsRow w.heap.size 3 1 v (2*k) ((turnsOf (m.take k)).map (Value.int .i64)) /\ Below w.heap.size w wr) (fun _ i _=>m.length-(intOf i).toNat)
 case atStart=>exact ⟨0,Nat.zero_le _,rfl,World.ownsRow_nil _ _ _ _,Below.refl _ _⟩
 case round=>
   obtain ⟨k,hk,rfl,hown,hb⟩:=hrel
   have hsz:=hb.size
   by_cases hlt:k<m.length
   · rcases hm.below hb with h0 | ⟨b,off,rfl,hbw,hc⟩
     · subst h0;simp at hlt
     obtain ⟨c0,c1,c2⟩:=PcAt.get hlt hc
     have HT:=hideW (turnsOf_succ m k hlt)
     have HBg:=hideW (fun o o' w1=>HNB.out o u5 _ _ wr hown hb o' w1)
     clear hc hm hb
     go_wp2_with (at_builtin;refine wpList_append_own _ rfl _ _ 37 rfl w.heap.size 3 i0 (.int .i64 0) 1 8 ((Seq.pu 37).trans Tryz.underlying37) hi hz0 hz1 hz2 rfl (by decide) _ _ _ rfl (World.ownsRow.alloc (World.ownsRow.alloc (w:=wr) hown _) _) ⟨wr.heap.size+1,0,none⟩ 2 2 [.int .i64 m[k].1,.int .i64 m[k].2.1] rfl rfl (cells_two_new _ _ _ _ _ (by simp)) (by intro u hu;simp at hu;rcases hu with rfl | rfl<;>rfl) (by unfold maxLen;omega) (by omega) (by simp;omega) ?_;intro v' w1 hown1 hgrow _)
     have hb':=HBg.out _ _ _ hgrow
     have R:w1.ownsRow w.heap.size 3 1 v' (2*(k+1)) ((turnsOf (m.take (k+1))).map (Value.int .i64)):=by
       rw [HT.out,List.map_append];exact hown1
     clear hgrow hown hown1
     go_wp2
     go_roundw
     case rel=>exact ⟨k+1,by omega,by go_num,R,hb'⟩
     case measure=>simp [intOf];omega
   · have hkl:k=m.length:=by omega
     subst hkl
     rw [List.take_length] at hown
     have hml:(turnsOf m).length=2*m.length:=turnsOf_length m
     have HML:=hideW hml
     clear hm hml
     obtain ⟨wo,hwo⟩:∃x,x=wr:=⟨_,rfl⟩
     rw [<- hwo] at hown hb hsz ⊢
     have hu5:=hown
     clear hwo
     go_wp2
     go_loopw [5,26] (fun v i wr=>∃k:Nat,k <= l.length /\ i= .int .i64 k /\ wr.ownsRow w.heap.size 3 1 v (2*m.length+2*k) ((turnsOf m++turnsOf (l.take k)).map (Value.int .i64)) /\ Below w.heap.size w wr) (fun _ i _=>l.length-(intOf i).toNat)
     case atStart=>exact ⟨0,Nat.zero_le _,rfl,by rw [List.take_zero,show turnsOf ([]:List (Int×Int×Int))=[] from rfl,List.append_nil];exact hown,hb⟩
     case round=>
       clear hown hb hsz hu5
       obtain ⟨k,hk,rfl,hown,hb⟩:=hrel
       have hsz:=hb.size
       by_cases hlt:k<l.length
       · rcases hl.below hb with h0 | ⟨b,off,rfl,hbw,hc⟩
         · subst h0;simp at hlt
         obtain ⟨c0,c1,c2⟩:=PcAt.get hlt hc
         have HT:=hideW (turnsOf_succ l k hlt)
         have HBg:=hideW (fun o o' w1=>HNB.out o _ _ _ wr hown hb o' w1)
         clear hc hl hb
         go_wp2_with (at_builtin;refine wpList_append_own _ rfl _ _ 37 rfl w.heap.size 3 i0 (.int .i64 0) 1 8 ((Seq.pu 37).trans Tryz.underlying37) hi hz0 hz1 hz2 rfl (by decide) _ _ _ rfl (World.ownsRow.alloc (World.ownsRow.alloc (w:=wr) hown _) _) ⟨wr.heap.size+1,0,none⟩ 2 2 [.int .i64 l[k].1,.int .i64 l[k].2.1] rfl rfl (cells_two_new _ _ _ _ _ (by simp)) (by intro u hu;simp at hu;rcases hu with rfl | rfl<;>rfl) (by unfold maxLen;omega) (by omega) (by simp;omega) ?_;intro v' w1 hown1 hgrow _)
         have hb':=HBg.out _ _ _ hgrow
         have R:w1.ownsRow w.heap.size 3 1 v' (2*m.length+2*(k+1)) ((turnsOf m++turnsOf (l.take (k+1))).map (Value.int .i64)):=by
           rw [HT.out,<- List.append_assoc,List.map_append];exact hown1
         clear hgrow hown hown1
         go_wp2
         go_roundw
         case rel=>exact ⟨k+1,by omega,by go_num,R,hb'⟩
         case measure=>simp [intOf];omega
       · have hkl:k=l.length:=by omega
         subst hkl
         rw [List.take_length] at hown
         have R:Hid (wr.ownsRow w.heap.size 3 1 u5 (turnsOf m++turnsOf l).length ((turnsOf m++turnsOf l).map (Value.int .i64))):=by
           show World.ownsRow _ _ _ _ _ _ _
           rw [List.length_append,HML.out,turnsOf_length l];exact hown
         clear hown
         go_wp2
         go_ret
         exact ⟨_,rfl,R.out,hb⟩
theorem Tryz.infoCell:(Seq.prog.info? 150).map (fun i=>(i.zero,i.size,i.bytes))=some (some (.agg #[.int .i64 0,.int .i64 0,.int .i64 0,.bool false,.int .i64 0]),5,40):=by kernel_rfl
def encK (c:Cl):List Value:=[.int .i64 c.1,.int .i64 c.2.1,.int .i64 c.2.2.1,.bool c.2.2.2.1,.int .i64 c.2.2.2.2]
def encC (l:List Cl):List Value:=l.flatMap encK
theorem encC_append (a b:List Cl):encC (a++b)=encC a++encC b:=by simp [encC]
theorem encC_length (l:List Cl):(encC l).length=l.length*5:=by
 induction l with
 | nil=>rfl
 | cons c l ih=>simp only [encC,List.flatMap_cons,List.length_append,List.length_cons] at ih ⊢;rw [ih];simp [encK];omega
def cl0:Cl:=(0,0,0,false,0)
theorem encC_get (l:List Cl) (j:Nat) (h:j<l.length):(encC l)[j*5]? =some (.int .i64 (l.getD j cl0).1) /\ (encC l)[j*5+1]? =some (.int .i64 (l.getD j cl0).2.1) /\ (encC l)[j*5+2]? =some (.int .i64 (l.getD j cl0).2.2.1) /\ (encC l)[j*5+3]? =some (.bool (l.getD j cl0).2.2.2.1) /\ (encC l)[j*5+4]? =some (.int .i64 (l.getD j cl0).2.2.2.2):=by
 induction l generalizing j with
 | nil=>simp at h
 | cons c l ih=>
   have e:encC (c::l)= .int .i64 c.1:: .int .i64 c.2.1:: .int .i64 c.2.2.1:: .bool c.2.2.2.1:: .int .i64 c.2.2.2.2::encC l:=by simp [encC,encK]
   rw [e]
   cases j with
   | zero=>exact ⟨rfl,rfl,rfl,rfl,rfl⟩
   | succ j=>
     have:=ih j (by simpa using h)
     rw [show (j+1)*5=j*5+1+1+1+1+1 by omega]
     simpa using this
def CeAt (w:World) (ao:Option Addr) (l:List Cl):Prop:=
 l=[] \/ ∃b off,ao=some ⟨b,off,none⟩ /\ b<w.heap.size /\ ∀j,j<l.length -> w.cell? ⟨b,off+j*5,none⟩=some (.int .i64 (l.getD j cl0).1) /\ w.cell? ⟨b,off+j*5+1,none⟩=some (.int .i64 (l.getD j cl0).2.1) /\ w.cell? ⟨b,off+j*5+2,none⟩=some (.int .i64 (l.getD j cl0).2.2.1) /\ w.cell? ⟨b,off+j*5+3,none⟩=some (.bool (l.getD j cl0).2.2.2.1) /\ w.cell? ⟨b,off+j*5+4,none⟩=some (.int .i64 (l.getD j cl0).2.2.2.2)
theorem CeAt.below {w w' :World} {ao:Option Addr} {l:List Cl} (h:CeAt w ao l) (hb:Below w.heap.size w w'):CeAt w' ao l:=by
 rcases h with h | ⟨b,off,rfl,hlt,hc⟩
 · exact .inl h
 · refine .inr ⟨b,off,rfl,Nat.lt_of_lt_of_le hlt hb.size,fun j hj=> ?_⟩
   rw [hb.cell (p:=⟨b,off+j*5,none⟩) hlt,hb.cell (p:=⟨b,off+j*5+1,none⟩) hlt,hb.cell (p:=⟨b,off+j*5+2,none⟩) hlt,hb.cell (p:=⟨b,off+j*5+3,none⟩) hlt,hb.cell (p:=⟨b,off+j*5+4,none⟩) hlt]
   exact hc j hj
theorem ceAt_of_owns {w:World} {base e:Nat} {v:Value} {n:Nat} {l:List Cl} (h:w.ownsRow base e 5 v n (encC l)):∃ao cap,v= .slice ao l.length cap /\ CeAt w ao l:=by
 obtain ⟨h1,h2⟩:=h
 simp only [encC_length] at h1
 have hn:n=l.length:=by omega
 subst hn
 rcases h2 with ⟨rfl,h0⟩ | ⟨g,cap,cur,rfl,hb,hh,h3,h4,h5,h6⟩
 · exact ⟨none,0,by rw [h0],.inl (List.eq_nil_of_length_eq_zero h0)⟩
 · have hown:w.ownsRow base e 5 (.slice (some ⟨g,0,none⟩) l.length cap) l.length (encC l):=⟨by simp [encC_length],.inr ⟨g,cap,cur,rfl,hb,hh,h3,h4,h5,h6⟩⟩
   refine ⟨_,cap,rfl,.inr ⟨g,0,rfl,(Array.getElem?_eq_some_iff.1 hh).1,fun j hj=> ?_⟩⟩
   obtain ⟨f0,f1,f2,f3,f4⟩:=encC_get l j hj
   rw [Nat.zero_add,hown.cellAt (j*5) (by omega),hown.cellAt (j*5+1) (by omega),hown.cellAt (j*5+2) (by omega),hown.cellAt (j*5+3) (by omega),hown.cellAt (j*5+4) (by omega)]
   exact ⟨f0,f1,f2,f3,f4⟩
theorem CeAt.get {w:World} {b off:Nat} {l:List Cl} {k:Nat} (hk:k<l.length) (hc:∀j,j<l.length -> w.cell? ⟨b,off+j*5,none⟩=some (.int .i64 (l.getD j cl0).1) /\ w.cell? ⟨b,off+j*5+1,none⟩=some (.int .i64 (l.getD j cl0).2.1) /\ w.cell? ⟨b,off+j*5+2,none⟩=some (.int .i64 (l.getD j cl0).2.2.1) /\ w.cell? ⟨b,off+j*5+3,none⟩=some (.bool (l.getD j cl0).2.2.2.1) /\ w.cell? ⟨b,off+j*5+4,none⟩=some (.int .i64 (l.getD j cl0).2.2.2.2)):
   w.cell? ⟨b,off+k*5,none⟩=some (.int .i64 l[k].1) /\ w.cell? ⟨b,off+k*5+1,none⟩=some (.int .i64 l[k].2.1) /\ w.cell? ⟨b,off+k*5+2,none⟩=some (.int .i64 l[k].2.2.1) /\ w.cell? ⟨b,off+k*5+3,none⟩=some (.bool l[k].2.2.2.1) /\ w.cell? ⟨b,off+k*5+4,none⟩=some (.int .i64 l[k].2.2.2.2):=by
 have hg:l.getD k cl0=l[k]:=by simp [List.getD_eq_getElem?_getD,List.getElem?_eq_getElem hk]
 rw [<- hg];exact hc k hk
theorem cells_five_new (w:World) (B:Nat) (t:TypeId) (x y z u v:Value) (hB:B=w.heap.size):∀j q,[x,y,z,u,v][j]? =some q -> (w.alloc (.cells #[x,y,z,u,v] t)).cell? ((⟨B,0,none⟩:Addr).add j)=some q:=by
 subst hB
 intro j q hj
 match j,hj with
 | 0,hj=>simp at hj;subst hj;simp [Addr.add]
 | 1,hj=>simp at hj;subst hj;simp [Addr.add]
 | 2,hj=>simp at hj;subst hj;simp [Addr.add]
 | 3,hj=>simp at hj;subst hj;simp [Addr.add]
 | 4,hj=>simp at hj;subst hj;simp [Addr.add]
def ToldC (w w' :World) (e:Ending) (n:Int) (r:List Cl):Prop:=
 ∃v,e= .returned (.tuple #[v,.int .i64 n]) /\ w'.ownsRow w.heap.size 150 5 v r.length (encC r) /\ Below w.heap.size w w'
theorem nilC (w W:World):W.ownsRow w.heap.size 150 5 (.slice none 0 0) ([]:List Cl).length (encC []):=World.ownsRow_nil _ _ _ _
set_option maxRecDepth 100000 in
set_option maxHeartbeats 4000000 in
theorem against_any (mo lo:Option Addr) (mc lc:Nat) (m l:List (Int×Int×Int)) (how:Int) (w:World) (hm:PcAt w mo m) (hl:PcAt w lo l) (h3:m.length <= 200) (h4:l.length <= 200) (hg:∀p∈l,GoodM p) (hh:how=1 \/ how=2 \/ how=3):
   Calls Seq.prog 111 #[.slice mo m.length mc,.slice lo l.length lc,.int .i64 how] w fun e w' =>∃S v,e= .returned v /\ Ordered (turnsOf m++turnsOf l) S /\ w'.ownsRow w.heap.size 150 5 v (cellsTo m l how S (S.length- 1)).length (encC (cellsTo m l how S (S.length- 1))) /\ S.length <= 800 /\ Below w.heap.size w w':=by
 obtain ⟨i0,hi,hz0,hz1,hz2⟩:=info_parts Tryz.infoCell
 have hA8:(turnsOf m++turnsOf l).length <= 800:=by rw [List.length_append,turnsOf_length,turnsOf_length];omega
 have hch:=wchanges_any mo lo mc lc m l w hm hl h3 h4
 obtain ⟨A,hA⟩:∃A,A=turnsOf m++turnsOf l:=⟨_,rfl⟩
 rw [<- hA] at hch hA8 ⊢
 clear hA
 have HTg:Hid (∀t W,Below w.heap.size w W -> Calls Seq.prog 128 #[.slice lo l.length lc,.int .i64 t,.int .i64 how] W fun e w' =>e= .returned (.tuple #[.int .i64 ((mix how l t).getD 0),.bool (mix how l t).isSome]) /\ Below W.heap.size W w'):=fun t W h=>wtogether_any lo lc l t how W (hl.below h) h4 hg hh
 have HAt:Hid (∀t W,Below w.heap.size w W -> Calls Seq.prog 11 #[.slice mo m.length mc,.int .i64 t] W fun e w' =>e= .returned (.tuple #[.int .i64 ((tel m t).getD 0),.bool (tel m t).isSome]) /\ Below W.heap.size W w'):=fun t W h=>PAt_any mo mc m t W (hm.below h) (by omega)
 clear hm hl
 go_enter Seq.func111,Tryz.ntmps111
 go_wp2_with fail
 refine hch.mono ?_
 rintro e w1 ⟨v1,rfl,hown1,hb1⟩
 obtain ⟨co,cc,rfl,hz1'⟩:=zsAt_of_owns hown1
 have hsp:=spans_any co cc A w1 hz1' hA8
 clear hch hown1 hz1'
 go_wp2_with fail
 refine hsp.mono ?_
 rintro e w2 ⟨S,v0,rfl,hO,hown0,hb0⟩
 have HO:=hideW hO
 have hSl:S.length <= 800:=Nat.le_trans hO.len hA8
 have hb2:Below w.heap.size w w2:=ptw hb1 hb0
 obtain ⟨N,hN⟩:∃N,N=S.length- 1:=⟨_,rfl⟩
 rw [<- hN] at hown0
 have HN:=hideW hN
 have hN8:N <= 800:=by omega
 have hown2:w2.ownsRow w1.heap.size 95 2 v0 (spn S N).length (encs (spn S N)):=by rw [spn_length];exact hown0
 obtain ⟨so,sc,hv0,hivs⟩:=ivAt_of_owns hown2
 rw [spn_length] at hv0
 subst hv0
 have HIV:=hideW hivs
 clear hO hsp hb1 hb0 hown0 hown2 hivs hN hA8
 go_wp2_with fail
 go_loopw [7,19] (fun v vi wr=>∃(j:Nat),vi= .int .i64 j /\ j <= N /\ wr.ownsRow w2.heap.size 150 5 v (cellsTo m l how S j).length (encC (cellsTo m l how S j)) /\ Below w2.heap.size w2 wr) (fun _ vi _=>N-(intOf vi).toNat)
 case atStart=>exact ⟨0,rfl,Nat.zero_le _,World.ownsRow_nil _ _ _ _,Below.refl _ _⟩
 case round=>
   obtain ⟨j,rfl,hjN,hown,hb⟩:=hrel
   have hol:=cellsTo_len m l how S j
   have hbb:Below w.heap.size w wr:=hb2.trans (hb.mono hb2.size)
   by_cases hlt:j<N
   · have hjS:j+1<S.length:=by have:=HN.out;omega
     rcases HIV.out.below hb with h0 | ⟨b,off,rfl,hbw,hc⟩
     · have:=spn_length S N;rw [h0] at this;simp at this;omega
     have hcj:=hc j (by rw [spn_length];exact hlt)
     rw [spn_get S N j hlt hjS] at hcj
     obtain ⟨c0,c1⟩:=hcj
     simp only at c0 c1
     have hsz:=hb.size
     have HB0:=hideW (fun o=>pal wr o)
     have hcl:=HTg.out S[j] (wr.alloc (.cells #[.int .i64 S[j],.int .i64 S[j+1]] 95)) (ptw hbb (pal _ _))
     have HOW:Hid (∀W,Below wr.heap.size wr W -> W.ownsRow w2.heap.size 150 5 u7 (cellsTo m l how S j).length (encC (cellsTo m l how S j)) /\ Below w2.heap.size w2 W):=fun W h=>⟨ownsRow_below hown h,hb.trans (h.mono hb.size)⟩
     have HAW:=hideW (fun W (h:Below wr.heap.size wr W)=>HAt.out S[j] W (ptw hbb h))
     clear hc hown hb HIV
     cases hfj:mix how l S[j] with
     | none=>
       have HE:=hideW (cellsTo_no (m:=m) (show j<S.length by omega) hfj)
       rw [hfj] at hcl
       simp only [Option.isSome_none,Option.getD_none] at hcl
       clear hfj HAW
       go_wp2_with fail
       refine hcl.mono ?_
       rintro e w3 ⟨rfl,hb3⟩
       have F:=HOW.out w3 (ptw (HB0.out _) hb3)
       go_wp2
       go_roundw
       case rel=>exact ⟨j+1,by go_num,by omega,by rw [HE.out];exact F.1,F.2⟩
       case measure=>simp [intOf];omega
     | some y=>
       have HE:=hideW (cellsTo_yes (m:=m) hjS hfj)
       rw [hfj] at hcl
       simp only [Option.isSome_some,Option.getD_some] at hcl
       clear hfj
       go_wp2_with fail
       refine hcl.mono ?_
       rintro e w3 ⟨rfl,hb3⟩
       have hb3':=ptw (HB0.out _) hb3
       have hAt:=HAW.out w3 hb3'
       have d0:w3.cell? ⟨wr.heap.size,0,none⟩=some (.int .i64 S[j]):=by rw [hb3.cell (p:=⟨wr.heap.size,0,none⟩) (by simp)];simp
       have hlt3:wr.heap.size<w3.heap.size:=World.block_lt_of_cell? w3 _ d0
       have d1:w3.cell? ⟨wr.heap.size,1,none⟩=some (.int .i64 S[j+1]):=by rw [hb3.cell (p:=⟨wr.heap.size,1,none⟩) (by simp)];simp
       have HD:=hideW (fun W (h:Below w3.heap.size w3 W)=>(⟨(h.cell (p:=⟨wr.heap.size,0,none⟩) hlt3).trans d0,(h.cell (p:=⟨wr.heap.size,1,none⟩) hlt3).trans d1⟩:W.cell? ⟨wr.heap.size,0,none⟩=some (.int .i64 S[j]) /\ W.cell? ⟨wr.heap.size,1,none⟩=some (.int .i64 S[j+1])))
       clear hcl hb3 HAW d1
       go_wp2_with fail
       refine hAt.mono ?_
       rintro e w4 ⟨rfl,hb4⟩
       obtain ⟨e0,e1⟩:=HD.out w4 hb4
       have hb4':=ptw hb3' hb4
       obtain ⟨o1,o2⟩:=HOW.out w4 hb4'
       have HBg:Hid (∀(o:Obj) (w5:World),(w4.alloc o).grownBy w5 u7.ownBlock -> Below w2.heap.size w2 w5):=fun o w5 hgr=>(o2.alloc o2.size o).grown hgr (by have:=o2.size;simp;omega) (fun k hk=>(o1.lt k hk).1)
       have hs4:=o2.size
       generalize (tel m S[j]).getD 0=tv at*
       generalize (tel m S[j]).isSome=tb at*
       clear hAt d0 HD HOW hb4 o2
       go_wp2_with (at_builtin;refine wpList_append_own _ rfl _ _ 144 rfl w2.heap.size 150 i0 _ 5 40 ((Seq.pu 144).trans Tryz.underlying144) hi hz0 hz1 hz2 rfl (by decide) _ _ _ rfl (World.ownsRow.alloc (w:=w4) o1 _) ⟨w4.heap.size,0,none⟩ 1 1 [.int .i64 S[j],.int .i64 S[j+1],.int .i64 tv,.bool tb,.int .i64 y] rfl rfl (cells_five_new _ _ _ _ _ _ _ _ rfl) (by intro u hu;simp at hu;rcases hu with rfl | rfl | rfl | rfl | rfl<;>rfl) (by unfold maxLen;omega) (by omega) (by simp;omega) ?_;intro v' w5 hown5 hgrow _)
       have hb':=HBg.out _ _ hgrow
       have R:w5.ownsRow w2.heap.size 150 5 v' (cellsTo m l how S (j+1)).length (encC (cellsTo m l how S (j+1))):=by
         rw [HE.out,encC_append,List.length_append];exact hown5
       clear hgrow o1 hown5
       go_wp2
       go_roundw
       case rel=>exact ⟨j+1,by go_num,by omega,R,hb'⟩
       case measure=>simp [intOf];omega
   · have hjn:j=N:=by omega
     have HR:Hid (wr.ownsRow w.heap.size 150 5 u7 (cellsTo m l how S (S.length- 1)).length (encC (cellsTo m l how S (S.length- 1)))):=by
       show World.ownsRow _ _ _ _ _ _ _
       rw [<- HN.out,<- hjn];exact owns_base2 hown hb2.size
     subst hjn
     clear hown HIV hb
     go_wp2
     go_ret
     exact ⟨S,_,rfl,HO.out,HR.out,hSl,hbb⟩
def CFitIs (out:List Cl) (n:Int) (r:List Cl):Prop:=
 (¬(∀c∈out,nearB c.2.2.2.2) /\ n=5 /\ r=[]) \/ ((∀c∈out,nearB c.2.2.2.2) /\ 200<out.length /\ n=2 /\ r=[]) \/ ((∀c∈out,nearB c.2.2.2.2) /\ out.length <= 200 /\ n=0 /\ r=out)
theorem Near_one (B:Nat) (x:Int) (w:World) (hB:B<w.heap.size) (c0:w.cell? ⟨B,0,none⟩=some (.int .i64 x)):
   Calls Seq.prog 86 #[.slice (some ⟨B,0,none⟩) 1 1] w fun e w' =>e= .returned (.bool (nrB x)) /\ w' =w:=by
 have h:=Near_any (some ⟨B,0,none⟩) 1 [x] w (.inr ⟨B,0,rfl,hB,fun j hj=>by
   match j,hj with
   | 0,_=>exact c0⟩) (by simp)
 simpa using h
set_option maxRecDepth 100000 in
set_option maxHeartbeats 2000000 in
theorem cfit_any (base:Nat) (v:Value) (out:List Cl) (w:World) (hown:w.ownsRow base 150 5 v out.length (encC out)) (hlen:out.length <= 1000):
   Calls Seq.prog 110 #[v] w fun e w' =>∃n r v',CFitIs out n r /\ e= .returned (.tuple #[v',.int .i64 n]) /\ w'.ownsRow base 150 5 v' r.length (encC r) /\ Below w.heap.size w w':=by
 obtain ⟨vo,vc,hve,hl⟩:=ceAt_of_owns hown
 subst hve
 have HOW:=hideW hown
 have HNil:Hid (∀W:World,W.ownsRow base 150 5 (.slice none 0 0) ([]:List Cl).length (encC [])):=fun W=>World.ownsRow_nil _ _ _ _
 clear hown
 go_enter Seq.func110,Tryz.ntmps110
 go_wp2
 go_loopw [8] (fun i wr=>∃k:Nat,k <= out.length /\ i= .int .i64 k /\ (∀c∈out.take k,nearB c.2.2.2.2) /\ Below w.heap.size w wr) (fun i _=>out.length-(intOf i).toNat)
 case atStart=>exact ⟨0,Nat.zero_le _,rfl,fun q hq=>by simp at hq,Below.refl _ _⟩
 case round=>
   obtain ⟨k,hk,rfl,hn,hb⟩:=hrel
   have HN:=hideW hn
   clear hn
   by_cases hlt:k<out.length
   · rcases hl.below hb with h0 | ⟨b,off,rfl,hbw,hc⟩
     · subst h0;simp at hlt
     obtain ⟨c0,c1,c2,c3,c4⟩:=CeAt.get hlt hc
     have HB:=hideW (fun o o' =>ptw (ptw hb (pal wr o)) (pal (wr.alloc o) o'))
     clear hc hl hb
     by_cases n1:nearB out[k].2.2.2.2
     · have HS:Hid (∀c∈out.take (k+1),nearB c.2.2.2.2):=by
         intro q hq
         rw [take_succ_get out k hlt,List.mem_append,List.mem_singleton] at hq
         rcases hq with hq | rfl
         · exact HN.out q hq
         · exact n1
       have e1:=(nrB_iff _).2 n1
       clear n1
       go_wp2_with fail
       refine (Near_one (wr.heap.size+1) out[k].2.2.2.2 _ (by simp) (by simp)).mono ?_
       rintro e w1 ⟨rfl,rfl⟩
       rw [e1]
       go_wp2
       go_roundw
       case rel=>exact ⟨k+1,by omega,by go_num,HS.out,HB.out _ _⟩
       case measure=>simp [intOf];omega
     · have HC:Hid (CFitIs out 5 []):= .inl ⟨fun h=>n1 (h _ (List.getElem_mem hlt)),rfl,rfl⟩
       have e1:nrB out[k].2.2.2.2=false:=by rw [<- Bool.not_eq_true,nrB_iff];exact n1
       clear n1
       go_wp2_with fail
       refine (Near_one (wr.heap.size+1) out[k].2.2.2.2 _ (by simp) (by simp)).mono ?_
       rintro e w1 ⟨rfl,rfl⟩
       rw [e1]
       go_wp2
       go_ret2
       exact ⟨_,_,_,HC.out,rfl,HNil.out _,HB.out _ _⟩
   · have hkl:k=out.length:=by omega
     have hall:∀c∈out,nearB c.2.2.2.2:=by have:=HN.out;rwa [hkl,List.take_length] at this
     have HA:=hideW hall
     clear hall
     subst hkl
     by_cases h200:200<out.length
     · have HC:Hid (CFitIs out 2 []):= .inr (.inl ⟨HA.out,h200,rfl,rfl⟩)
       go_wp2
       go_ret2
       exact ⟨_,_,_,HC.out,rfl,HNil.out _,hb⟩
     · have HC:Hid (CFitIs out 0 out):= .inr (.inr ⟨HA.out,by omega,rfl,rfl⟩)
       have HR:=hideW (ownsRow_below HOW.out hb)
       go_wp2
       go_ret2
       exact ⟨_,_,_,HC.out,rfl,HR.out,hb⟩
def CellsAns (m l:List (Int×Int×Int)) (how n:Int) (r:List Cl):Prop:=
 (¬mchk m=0 /\ n=mchk m /\ r=[]) \/ (mchk m=0 /\ ¬cbChk l how=0 /\ n=cbChk l how /\ r=[]) \/ (mchk m=0 /\ cbChk l how=0 /\ CellsIs m l how n r)
theorem mchk_bad' {m:List (Int×Int×Int)} (h:¬mchk m=0):∃n,mchk m=n /\ (n=2 \/ n=5):=by
 rcases mchk_cases m with e | e | ⟨e,_⟩
 · exact ⟨2,e,.inl rfl⟩
 · exact ⟨5,e,.inr rfl⟩
 · exact absurd e h
theorem mchk_good' {m:List (Int×Int×Int)} (h:mchk m=0):m.length <= 200 /\ MCan m /\ ∀p∈m,NearP p:=by
 rcases mchk_cases m with e | e | ⟨_,h1,h2⟩
 · omega
 · omega
 · exact ⟨h1,mcan_of_good h2,near_of_good h2⟩
set_option maxRecDepth 100000 in
set_option maxHeartbeats 2000000 in
theorem Cells_any (mo lo:Option Addr) (mc lc:Nat) (m l:List (Int×Int×Int)) (how:Int) (w:World) (hm:PcAt w mo m) (hl:PcAt w lo l):
   Calls Seq.prog 79 #[.slice mo m.length mc,.slice lo l.length lc,.int .i64 how] w fun e w' =>∃n r,CellsAns m l how n r /\ ToldC w w' e n r:=by
 have h1:=PCheck_any mo mc m w hm
 by_cases e1:¬mchk m=0
 · obtain ⟨n,en,hn⟩:=mchk_bad' e1
   have HC:Hid (CellsAns m l how n []):= .inl ⟨e1,en.symm,rfl⟩
   rw [en] at h1
   clear e1 en
   rcases hn with rfl | rfl
   all_goals
     go_enter Seq.func79,Tryz.ntmps79
     go_wp2_with fail
     refine h1.mono ?_
     rintro e w1 ⟨rfl,hb1⟩
     go_wp2
     go_ret2
     exact ⟨_,_,HC.out,_,rfl,nilC _ _,hb1⟩
 rw [Decidable.not_not] at e1
 rw [e1] at h1
 have HE1:=hideW e1
 have h2:=fun W (h:Below w.heap.size w W)=>checkBoth_any lo lc l how W (hl.below h)
 clear e1
 by_cases e2:¬cbChk l how=0
 · obtain ⟨n,en,hn⟩:=cbChk_bad e2
   have HC:Hid (CellsAns m l how n []):= .inr (.inl ⟨HE1.out,e2,en.symm,rfl⟩)
   simp only [en] at h2
   clear e2 en
   rcases hn with rfl | rfl | rfl
   all_goals
     go_enter Seq.func79,Tryz.ntmps79
     go_wp2_with fail
     refine h1.mono ?_
     rintro e w1 ⟨rfl,hb1⟩
     go_wp2_with fail
     refine (h2 w1 hb1).mono ?_
     rintro e w2 ⟨rfl,hb2⟩
     have hb:=ptw hb1 hb2
     clear hb1 hb2
     go_wp2
     go_ret2
     exact ⟨_,_,HC.out,_,rfl,nilC _ _,hb⟩
 rw [Decidable.not_not] at e2
 simp only [e2] at h2
 have HE2:=hideW e2
 obtain ⟨l3,_,_⟩:=mchk_good' HE1.out
 obtain ⟨l4,hgd,hhw,_⟩:=cbChk_good e2
 have h5:=fun W (h:Below w.heap.size w W)=>against_any mo lo mc lc m l how W (hm.below h) (hl.below h) l3 l4 hgd hhw
 clear e2 hm hl hhw
 have HGD:=hideW hgd
 clear hgd
 go_enter Seq.func79,Tryz.ntmps79
 go_wp2_with fail
 refine h1.mono ?_
 rintro e w1 ⟨rfl,hb1⟩
 go_wp2_with fail
 refine (h2 w1 hb1).mono ?_
 rintro e w2 ⟨rfl,hb2⟩
 have hb:=ptw hb1 hb2
 clear hb1 hb2 h1
 go_wp2_with fail
 refine (h5 w2 hb).mono ?_
 rintro e w3 ⟨S,v3,rfl,hO,hown,hSl,hb3⟩
 have hfit:=cfit_any w2.heap.size v3 _ w3 hown (by have:=cellsTo_len m l how S (S.length- 1);omega)
 have HO:=hideW hO
 have hbb:=ptw hb hb3
 have hs:=hb.size
 clear hO hown hb3 h2 h5
 go_wp2_with fail
 refine hfit.mono ?_
 rintro e w4 ⟨n,r,v4,hF,rfl,hown4,hb4⟩
 have HC:Hid (CellsAns m l how n r):= .inr (.inr ⟨HE1.out,HE2.out,S,HO.out,hF⟩)
 have R:=owns_base2 hown4 hs
 have hbF:=ptw hbb hb4
 clear hF hfit hown4 hb4
 go_wp2
 go_ret2
 exact ⟨n,r,HC.out,v4,rfl,R,hbF⟩
theorem Tryz.infoMsg:(Seq.prog.info? 183).map (fun i=>(i.zero,i.size,i.bytes))=some (some (.agg #[.int .i64 0,.int .i64 0,.int .i64 0]),3,24):=by kernel_rfl
theorem enc3_cons (q:P3) (l:List P3):enc3 (q::l)= .int .i64 q.1:: .int .i64 q.2.1:: .int .i64 q.2.2::enc3 l:=by unfold enc3;rw [flat3_cons];rfl
theorem made_three (n:Nat):(madeCells (Value.agg #[.int .i64 0,.int .i64 0,.int .i64 0]).cells (n*3)).toList=enc3 (List.replicate n (0,0,0)):=by
 apply List.ext_getElem?
 intro j
 have hl:(madeCells (Value.agg #[.int .i64 0,.int .i64 0,.int .i64 0]).cells (n*3)).toList.length=n*3:=by rw [Array.length_toList,size_madeCells]
 by_cases hj:j<n*3
 · have e0:∀x∈enc3 (List.replicate n ((0:Int),(0:Int),(0:Int))),x=Value.int .i64 0:=by
     intro x hx
     unfold enc3 flat3 at hx
     simp only [List.mem_map,List.mem_flatMap,List.mem_replicate] at hx
     obtain ⟨y,⟨q,⟨_,rfl⟩,hy⟩,rfl⟩:=hx
     simp at hy
     rw [hy]
   have hj2:j<(enc3 (List.replicate n ((0:Int),(0:Int),(0:Int)))).length:=by rw [enc3_length,List.length_replicate];exact hj
   rw [List.getElem?_eq_getElem (by omega),List.getElem?_eq_getElem hj2,e0 _ (List.getElem_mem hj2)]
   congr 1
   have h3:(Value.agg #[.int .i64 0,.int .i64 0,.int .i64 0]).cells=#[Value.int .i64 0,.int .i64 0,.int .i64 0]:=by rfl
   simp only [madeCells,h3,Array.getElem_toList,Array.getElem_map,Array.getElem_range]
   have:j%3=0 \/ j%3=1 \/ j%3=2:=by omega
   rcases this with e | e | e<;>simp [e]
 · rw [List.getElem?_eq_none (by omega),List.getElem?_eq_none (by rw [enc3_length,List.length_replicate];omega)]
theorem enc3_set3:∀(m:List P3) (k:Nat) (q:P3),k<m.length -> (((enc3 m).set (k*3) (.int .i64 q.1)).set (k*3+1) (.int .i64 q.2.1)).set (k*3+2) (.int .i64 q.2.2)=enc3 (m.set k q)
 | [],k,q,h=>by simp at h
 | x::m,0,q,_=>by
   have e:(x::m).set 0 q=q::m:=rfl
   rw [e,enc3_cons,enc3_cons];rfl
 | x::m,k+1,q,h=>by
   have ih:=enc3_set3 m k q (by simpa using h)
   have e:(x::m).set (k+1) q=x::m.set k q:=rfl
   rw [e,enc3_cons,enc3_cons,<- ih,show (k+1)*3=k*3+1+1+1 from by omega]
   rfl
theorem enc3_set2:∀(m:List P3) (k:Nat) (z:Int) (h:k<m.length),(enc3 m).set (k*3+2) (.int .i64 z)=enc3 (m.set k (m[k].1,m[k].2.1,z))
 | [],k,q,h=>by simp at h
 | x::m,0,q,_=>by
   show _=enc3 ((x.1,x.2.1,q)::m)
   rw [enc3_cons,enc3_cons];rfl
 | x::m,k+1,q,h=>by
   have hk:k<m.length:=by simpa using h
   have ih:=enc3_set2 m k q hk
   show _=enc3 (x::m.set k (m[k].1,m[k].2.1,q))
   rw [enc3_cons,enc3_cons,<- ih,show (k+1)*3+2=k*3+2+1+1+1 from by omega]
   rfl
theorem take_set_get {α:Type} {l m:List α} {k:Nat} (hk:k<l.length) (hm:m.length=l.length) (h:m.take k=l.take k):(m.set k l[k]).take (k+1)=l.take (k+1):=by
 have hk2:k<m.length:=by omega
 rw [List.take_add_one,List.take_add_one,List.take_set_of_le (Nat.le_refl _),h]
 simp [hk,hk2]
set_option maxRecDepth 100000 in
set_option maxHeartbeats 2000000 in
theorem bsMessages_any (ao:Option Addr) (cap:Nat) (l:List P3) (w:World) (hl:PcAt w ao l) (h2:l.length <= 200):
   Calls Seq.prog 80 #[.slice ao l.length cap] w fun r w' =>∃a c,r= .returned (.slice a l.length c) /\ PcAt w' a l /\ Below w.heap.size w w':=by
 obtain ⟨i0,hi,hz0,hz1,hz2⟩:=info_parts Tryz.infoMsg
 obtain ⟨n,hn⟩:∃n,n=l.length:=⟨_,rfl⟩
 rw [<- hn]
 have HH:=hideg hn
 have hn2:n <= 200:=by omega
 clear hn h2
 go_enter Seq.func80,Tryz.ntmps80
 go_wp2_with (at_make;refine wpList_make_full _ rfl _ _ 147 rfl w.heap.size 183 i0 _ 3 ((Seq.pu 147).trans Tryz.underlying147) hi hz0 hz1 .i64 .i64 _ _ n rfl rfl rfl rfl (by rw [hz2];omega) (by unfold maxLen;omega) (by simp) ?_;intro w0 hown0 hgrow0)
 rw [made_three] at hown0
 have HB0:Hid (Below w.heap.size w w0):=(Below.refl w.heap.size w).grown hgrow0 (Nat.le_refl _) (fun k hk=>by cases hk)
 have HO0:=hideg hown0
 clear hown0 hgrow0
 go_loopw [11] (fun i wr=>∃(k:Nat) (m:List P3),k <= n /\ i= .int .i64 k /\ m.length=n /\ m.take k=l.take k /\ wr.ownsRow w.heap.size 183 3 (.slice (some ⟨w.heap.size,0,none⟩) n n) n (enc3 m) /\ Below w.heap.size w wr) (fun i _=>n-(intOf i).toNat)
 case atStart=>exact ⟨0,List.replicate n (0,0,0),Nat.zero_le _,rfl,by simp,by simp,HO0.out,HB0.out⟩
 case round=>
   clear HB0 HO0
   obtain ⟨k,m,hk,rfl,hml,hmt,hown,hb⟩:=hrel
   by_cases hlt:k<n
   · have hlt2:k<l.length:=by rw [<- HH.out];exact hlt
     rcases hl.below hb with h0 | ⟨b,off,rfl,hbw,hc⟩
     · subst h0;simp at hlt2
     obtain ⟨c0,c1,c2⟩:=PcAt.at3 hlt2 hc
     have HM:=hideg (take_set_get hlt2 (hml.trans HH.out) hmt)
     have HE:=hideg (enc3_set3 m k l[k] (by omega))
     have HML:=hideg hml
     clear hc hl hmt hml
     generalize l[k]=q at*
     clear hlt2
     have hsz:=hb.size
     have f0:=hown.frozenAt (k*3)
     have f1:=hown.frozenAt (k*3+1)
     have f2:=hown.frozenAt (k*3+2)
     have g0:∃x,wr.cell? ⟨w.heap.size,k*3,none⟩=some x:=by
       rw [hown.cellAt (k*3) (by omega)];exact ⟨_,List.getElem?_eq_getElem (by rw [enc3_length,HML.out];omega)⟩
     have g1:∃x,wr.cell? ⟨w.heap.size,k*3+1,none⟩=some x:=by
       rw [hown.cellAt (k*3+1) (by omega)];exact ⟨_,List.getElem?_eq_getElem (by rw [enc3_length,HML.out];omega)⟩
     have g2:∃x,wr.cell? ⟨w.heap.size,k*3+2,none⟩=some x:=by
       rw [hown.cellAt (k*3+2) (by omega)];exact ⟨_,List.getElem?_eq_getElem (by rw [enc3_length,HML.out];omega)⟩
     obtain ⟨x0,g0⟩:=g0
     obtain ⟨x1,g1⟩:=g1
     obtain ⟨x2,g2⟩:=g2
     have HOW:Hid (((((wr.setCell ⟨w.heap.size,k*3,none⟩ (.int .i64 q.1)).setCell ⟨w.heap.size,k*3+1,none⟩ (.int .i64 q.2.1)).setCell ⟨w.heap.size,k*3+2,none⟩ (.int .i64 q.2.2)).alloc (.cells #[.int .i64 q.1,.int .i64 q.2.1,.int .i64 q.2.2] 54)).ownsRow w.heap.size 183 3 (.slice (some ⟨w.heap.size,0,none⟩) n n) n (enc3 (m.set k q))):=by
       have:=(((hown.stored (k*3) (.int .i64 q.1)).1.stored (k*3+1) (.int .i64 q.2.1)).1.stored (k*3+2) (.int .i64 q.2.2)).1
       rw [HE.out] at this
       exact World.ownsRow.alloc this _
     have HBW:Hid (Below w.heap.size w ((((wr.setCell ⟨w.heap.size,k*3,none⟩ (.int .i64 q.1)).setCell ⟨w.heap.size,k*3+1,none⟩ (.int .i64 q.2.1)).setCell ⟨w.heap.size,k*3+2,none⟩ (.int .i64 q.2.2)).alloc (.cells #[.int .i64 q.1,.int .i64 q.2.1,.int .i64 q.2.2] 54))):=
       (((hb.setCell (p:=⟨w.heap.size,k*3,none⟩) (Nat.le_refl _) _).setCell (p:=⟨w.heap.size,k*3+1,none⟩) (Nat.le_refl _) _).setCell (p:=⟨w.heap.size,k*3+2,none⟩) (Nat.le_refl _) _).alloc (by simp [World.setCell];omega) _
     have hsw:=Nat.lt_of_lt_of_le ((hown.lt _ rfl).2) (Nat.le_refl _)
     clear hown hb HE
     go_wp2
     go_roundw
     case rel=>exact ⟨k+1,m.set k q,by omega,by go_num,by rw [List.length_set];exact HML.out,HM.out,HOW.out,HBW.out⟩
     case measure=>simp [intOf];omega
   · have hkn:k=n:=by omega
     have e1:m=l:=by
       rw [hkn,List.take_of_length_le (by omega),List.take_of_length_le (by rw [HH.out];omega)] at hmt
       exact hmt
     subst hkn
     subst e1
     obtain ⟨a,c,e,hp⟩:=pcAt_of_owns hown
     simp only [Value.slice.injEq] at e
     obtain ⟨rfl,_,rfl⟩:=e
     have HP:=hideg hp
     have HB:=hideg hb
     clear hown hmt hml hl hp hb hlt
     go_wp2
     go_ret
     exact ⟨_,_,rfl,HP.out,HB.out⟩
theorem rising_le {R T:List Int} (hR:R.Pairwise (·<·)) (h:∀x∈R,x∈T):R.length <= T.length:=by
 induction R generalizing T with
 | nil=>simp
 | cons x R ih=>
   rw [List.pairwise_cons] at hR
   have hx:x∈T:=h x (by simp)
   have:=ih (T:=T.erase x) hR.2 fun y hy=>(List.mem_erase_of_ne (by have:=hR.1 y hy;omega)).2 (h y (by simp [hy]))
   rw [List.length_erase_of_mem hx] at this
   have hp:0<T.length:=List.length_pos_of_mem hx
   simp only [List.length_cons];omega
theorem mcan_starts {m:List (Int×Int×Int)} (h:MCan m):(m.map (fun q=>q.1)).Pairwise (·<·):=by
 induction m with
 | nil=>exact List.Pairwise.nil
 | cons p m ih=>
   rw [List.map_cons,List.pairwise_cons]
   refine ⟨fun x hx=> ?_,ih h.2.2⟩
   rw [List.mem_map] at hx
   obtain ⟨q,hq,rfl⟩:=hx
   have:=mcan_low h q hq
   have:=h.1
   omega
theorem mcan_len {m:List (Int×Int×Int)} {T:List Int} (h:MCan m) (hT:∀q∈m,q.1∈T):m.length <= T.length:=by
 have:=rising_le (mcan_starts h) (T:=T) (fun x hx=>by rw [List.mem_map] at hx;obtain ⟨q,hq,rfl⟩:=hx;exact hT q hq)
 simpa using this
structure MOf (T:List Int) (m:List (Int×Int×Int)):Prop where
 canon:MCan m
 near:∀p∈m,NearP p
 mem:∀q∈m,q.1∈T /\ q.2.1∈T
theorem MOf.len {T:List Int} {m:List (Int×Int×Int)} (h:MOf T m):m.length <= T.length:=mcan_len h.canon fun q hq=>(h.mem q hq).1
theorem MOf.chk {T:List Int} {m:List (Int×Int×Int)} (h:MOf T m) (hT:T.length <= 200):mchk m=0:=mchk_of_mcan h.canon h.near (by have:=h.len;omega)
theorem MOf.turns {T:List Int} {m:List (Int×Int×Int)} (h:MOf T m):∀x∈turnsOf m,x∈T:=by
 intro x hx
 obtain ⟨p,hp,e | e⟩:=turnsOf_mem hx
 · rw [e];exact (h.mem p hp).1
 · rw [e];exact (h.mem p hp).2
theorem mapIs_out {A:List Int} {f:Int -> Option Int} {n:Int} {r:List (Int×Int×Int)} (h:MapIs A f n r) (hf:∀S,(∀x,x∈S↔x∈A) -> MTurns S f):∃out,MCan out /\ (∀t,tel out t=f t) /\ (∀q∈out,q.1∈A /\ q.2.1∈A /\ ∃s,f s=some q.2.2) /\ FitIs out n r:=by
 obtain ⟨S,out,hO,hT,h⟩:=h
 refine ⟨out,hT.canon,tl_tel hO (hf S hO.mem) hT,fun q hq=> ?_,h⟩
 obtain ⟨h1,h2,s,_,h3⟩:=hT.mem q hq
 exact ⟨(hO.mem _).1 h1,(hO.mem _).1 h2,s,h3⟩
theorem fitIs_unique {out:List (Int×Int×Int)} {n n' :Int} {r r' :List (Int×Int×Int)} (h:FitIs out n r) (h' :FitIs out n' r'):n=n' /\ r=r':=by
 rcases h with ⟨a,h1,h2⟩ | ⟨a,b,h1,h2⟩ | ⟨a,b,h1,h2⟩
 · rcases h' with ⟨a',h1',h2'⟩ | ⟨a',b',h1',h2'⟩ | ⟨a',b',h1',h2'⟩
   · exact ⟨h1.trans h1'.symm,h2.trans h2'.symm⟩
   · exact absurd a' a
   · exact absurd a' a
 · rcases h' with ⟨a',h1',h2'⟩ | ⟨a',b',h1',h2'⟩ | ⟨a',b',h1',h2'⟩
   · exact absurd a a'
   · exact ⟨h1.trans h1'.symm,h2.trans h2'.symm⟩
   · omega
 · rcases h' with ⟨a',h1',h2'⟩ | ⟨a',b',h1',h2'⟩ | ⟨a',b',h1',h2'⟩
   · exact absurd a a'
   · omega
   · exact ⟨h1.trans h1'.symm,h2.trans h2'.symm⟩
theorem mapIs_ok {A T:List Int} {f:Int -> Option Int} {n:Int} {r:List (Int×Int×Int)} (h:MapIs A f n r) (hf:∀S,(∀x,x∈S↔x∈A) -> MTurns S f) (hv:∀s v,f s=some v -> nearB v) (hA:∀x∈A,nearB x) (hT:∀x∈A,x∈T) (h2:T.length <= 200):n=0 /\ MOf T r /\ ∀t,tel r t=f t:=by
 obtain ⟨o,c,t,hm,F⟩:=mapIs_out h hf
 have hn:∀q∈o,NearP q:=fun q hq=>by
   obtain ⟨a1,a2,s,a3⟩:=hm q hq
   exact ⟨hA _ a1,hA _ a2,hv s _ a3⟩
 have M:MOf T o:=⟨c,hn,fun q hq=>⟨hT _ (hm q hq).1,hT _ (hm q hq).2.1⟩⟩
 obtain ⟨e1,e2⟩:=fitIs_unique F (.inr (.inr ⟨hn,by have:=M.len;omega,rfl,rfl⟩))
 subst e2
 exact ⟨e1,M,t⟩
set_option maxRecDepth 100000 in
set_option maxHeartbeats 2000000 in
theorem pick1_any (g:Nat) (bb:Bool) (eg:∀args w,(callFunc g args).run Seq.prog w= .ok (.enter g args) w) (hg:∀x w,Calls Seq.prog g #[.bool x] w fun e w' =>e= .returned (.bool (x==bb)) /\ w' =w)
   (Bm Bl Bw:Nat) (ao lo:Option Addr) (ca cl:Nat) (m:List (Int×Int×Int)) (l:List (Int×Int)) (t:Int) (w:World) (hA:PcAt w ao m) (hL:IvAt w lo l) (la:m.length <= 200) (ll:l.length <= 200)
   (c1:w.cell? ⟨Bm,0,none⟩=some (.slice ao m.length ca)) (c2:w.cell? ⟨Bl,0,none⟩=some (.slice lo l.length cl)) (c3:w.cell? ⟨Bw,0,none⟩=some (.func (.func g) #[] #[])):
   Calls Seq.prog 149 #[.int .i64 t,.pointer (some ⟨Bm,0,none⟩),.pointer (some ⟨Bw,0,none⟩),.pointer (some ⟨Bl,0,none⟩)] w fun e w' =>(∃x,e= .returned (.tuple #[.int .i64 x,.bool (onlyF m l bb t).isSome]) /\ ∀y,onlyF m l bb t=some y -> x=y) /\ Below w.heap.size w w':=by
 have hHa:=PAt_any ao ca m t w hA (by omega)
 have l2:=World.block_lt_of_cell? w _ c2
 have l3:=World.block_lt_of_cell? w _ c3
 simp only at l2 l3
 have HC:Hid (∀W,Below w.heap.size w W -> W.cell? ⟨Bl,0,none⟩=some (.slice lo l.length cl) /\ W.cell? ⟨Bw,0,none⟩=some (.func (.func g) #[] #[]) /\ Calls Seq.prog 24 #[.slice lo l.length cl,.int .i64 t] W fun e w' =>e= .returned (.bool (has l t)) /\ Below W.heap.size W w'):=fun W h=>
   ⟨(h.cell (p:=⟨Bl,0,none⟩) l2).trans c2,(h.cell (p:=⟨Bw,0,none⟩) l3).trans c3,Has_any lo cl l t W (hL.below h) (by omega)⟩
 clear hA hL c2 c3
 cases hx:tel m t with
 | none=>
   simp only [hx,Option.getD_none,Option.isSome_none] at hHa
   have HF:Hid (onlyF m l bb t=none):=by show _=_;unfold onlyF;rw [hx];split<;>rfl
   rw [HF.out]
   clear hx HF
   go_enter Seq.func149,Tryz.ntmps149
   go_wp2_with fail
   refine hHa.mono ?_
   rintro e w1 ⟨rfl,hb1⟩
   go_wp2_with fail
   go_quiet (fail)
   go_wp2
   go_ret2
   exact ⟨⟨0,rfl,fun y h=>by cases h⟩,below_drewN hb1 _⟩
 | some x=>
   simp only [hx,Option.getD_some,Option.isSome_some] at hHa
   have HF:Hid (onlyF m l bb t=if has l t=bb then some x else none):=by show _=_;unfold onlyF;rw [hx]
   rw [HF.out]
   clear hx HF
   generalize has l t=h at HC ⊢
   have hgh:=fun W=>hg h W
   have HR:Hid ((if h=bb then some x else none:Option Int).isSome=(h==bb)):=by
     show _=_
     cases h<;>cases bb<;>rfl
   have HY:Hid (∀y,(if h=bb then some x else none:Option Int)=some y -> x=y):=by
     intro y hy
     split at hy
     · cases hy;rfl
     · cases hy
   generalize (if h=bb then some x else none:Option Int)=o at HR HY ⊢
   rw [HR.out]
   clear HR
   generalize (h==bb)=q at hgh ⊢
   go_enter Seq.func149,Tryz.ntmps149
   go_wp2_with fail
   refine hHa.mono ?_
   rintro e W0 ⟨rfl,hb1⟩
   have HC2:Hid (∀s:HeldIn W0,s.w.cell? ⟨Bl,0,none⟩=some (.slice lo l.length cl) /\ s.w.cell? ⟨Bw,0,none⟩=some (.func (.func g) #[] #[]) /\ Calls Seq.prog 24 #[.slice lo l.length cl,.int .i64 t] s.w fun e w' =>e= .returned (.bool h) /\ Below s.w.heap.size s.w w'):=fun s=>HC.out s.w (ptw hb1 s.h)
   have f1:∀s:HeldIn W0,s.w.cell? ⟨Bl,0,none⟩=some (.slice lo l.length cl):=fun s=>(HC2.out s).1
   have f2:∀s:HeldIn W0,s.w.cell? ⟨Bw,0,none⟩=some (.func (.func g) #[] #[]):=fun s=>(HC2.out s).2.1
   have hne:Nonempty (HeldIn W0):=⟨⟨W0,Below.refl _ _⟩⟩
   go_wp2_with fail
   refine wp_region_held W0 (Below.refl _ _) (by kernel_rfl) (by kernel_rfl) ?_
   repeat (go_big_quiet_step ((first | (go_at_call 24;exact held_of (HC2.out _).2.2) | (go_at_fn g;exact held_same (hgh _)))))
   refine wpQuiet_nil ?_
   rintro _ ⟨s,rfl⟩
   have hbs:=ptw hb1 s.h
   generalize s.w=w1 at hbs ⊢
   clear f1 f2 hne HC2
   go_wp2
   go_ret2
   exact ⟨⟨x,rfl,HY.out⟩,hbs⟩
def OnlyIs (m:List (Int×Int×Int)) (l:List (Int×Int)) (bb:Bool) (n:Int) (r:List (Int×Int×Int)):Prop:=
 (¬mchk m=0 /\ n=mchk m /\ r=[]) \/ (mchk m=0 /\ ¬chk l=0 /\ n=chk l /\ r=[]) \/ (mchk m=0 /\ chk l=0 /\ MapIs (turnsOf m++flat l) (onlyF m l bb) n r)
theorem chk_bad {l:List (Int×Int)} (h:¬chk l=0):∃n,chk l=n /\ (n=2 \/ n=5):=by
 rcases chk_cases l with e | e | ⟨e,_⟩
 · exact ⟨2,e,.inl rfl⟩
 · exact ⟨5,e,.inr rfl⟩
 · exact absurd e h
theorem chk_good {l:List (Int×Int)} (h:chk l=0):l.length <= 200 /\ Canon l /\ ∀x∈flat l,nearB x:=by
 rcases chk_cases l with e | e | ⟨_,h1,h2,h3⟩
 · omega
 · omega
 · exact ⟨h1,canon_of_form h3,near_flat h2⟩
set_option maxRecDepth 100000 in
set_option maxHeartbeats 4000000 in
theorem pick_any (g:Nat) (bb:Bool) (eg:∀args w,(callFunc g args).run Seq.prog w= .ok (.enter g args) w) (hg:∀x w,Calls Seq.prog g #[.bool x] w fun e w' =>e= .returned (.bool (x==bb)) /\ w' =w)
   (ao lo:Option Addr) (ca cl:Nat) (m:List (Int×Int×Int)) (l:List (Int×Int)) (w:World) (hA:PcAt w ao m) (hL:IvAt w lo l):
   Calls Seq.prog 140 #[.slice ao m.length ca,.slice lo l.length cl,.func (.func g) #[] #[]] w fun e w' =>∃n r,OnlyIs m l bb n r /\ Told3 w w' e n r:=by
 have h1:=fun W (h:Below w.heap.size w W)=>PCheck_any ao ca m W (hA.below h)
 have h2:=fun W (h:Below w.heap.size w W)=>check_any lo cl l W (hL.below h)
 have B0:=bx3_start w (.slice ao m.length ca) (.slice lo l.length cl) (.func (.func g) #[] #[]) 41 22 214
 by_cases e1:¬mchk m=0
 · obtain ⟨n,en,hn⟩:=mchk_bad e1
   have HC:Hid (OnlyIs m l bb n []):= .inl ⟨e1,en.symm,rfl⟩
   simp only [en] at h1
   clear e1 en h2
   rcases hn with rfl | rfl
   all_goals
     go_enter Seq.func140,Tryz.ntmps140
     go_wp2_with fail
     refine (h1 _ B0.bel).mono ?_
     rintro e w1 ⟨rfl,hb1⟩
     have g1:=ptw B0.bel hb1
     clear B0 hb1
     go_wp2
     go_ret2
     exact ⟨_,_,HC.out,_,rfl,nil3 _ _,g1⟩
 rw [Decidable.not_not] at e1
 simp only [e1] at h1
 obtain ⟨la,_,na⟩:=mchk_good e1
 have HE1:Hid (mchk m=0):=e1
 clear e1 na
 by_cases e2:¬chk l=0
 · obtain ⟨n,en,hn⟩:=chk_bad e2
   have HC:Hid (OnlyIs m l bb n []):= .inr (.inl ⟨HE1.out,e2,en.symm,rfl⟩)
   simp only [en] at h2
   clear e2 en
   rcases hn with rfl | rfl
   all_goals
     go_enter Seq.func140,Tryz.ntmps140
     go_wp2_with fail
     refine (h1 _ B0.bel).mono ?_
     rintro e w1 ⟨rfl,hb1⟩
     have B1:=B0.below hb1
     have cc2:=B1.c2
     have g1:=B1.bel
     clear B0 hb1 B1
     go_wp2_with fail
     refine (h2 _ g1).mono ?_
     rintro e w2 ⟨rfl,hb2⟩
     have g2:=ptw g1 hb2
     clear g1 hb2 cc2
     go_wp2
     go_ret2
     exact ⟨_,_,HC.out,_,rfl,nil3 _ _,g2⟩
 rw [Decidable.not_not] at e2
 simp only [e2] at h2
 obtain ⟨ll,_,nl⟩:=chk_good e2
 have HE2:Hid (chk l=0):=e2
 clear e2 nl
 obtain ⟨i0,hi,hz0,hz1,hz2⟩:=info_parts Tryz.infoInt
 have hmf:∀(fn:Fn) (first cap:Array Value) (w:World),(Instr.makeFunc fn first cap).run Seq.prog w= .ok (.func fn first cap) w:=fun _ _ _ _=>rfl
 have HLN:Hid ((turnsOf m++flat l).length=2*m.length+2*l.length):=by show _=_;rw [List.length_append,turnsOf_length,flat_length]
 have hgo:Hid (∀w2,Bx3 w w2 (.slice ao m.length ca) (.slice lo l.length cl) (.func (.func g) #[] #[]) -> ∀W gg cap1,W.ownsRow w2.heap.size 3 1 (.slice (some ⟨gg,0,none⟩) (2*m.length+2*l.length) cap1) (2*m.length+2*l.length) ((turnsOf m++flat l).map (Value.int .i64)) -> Below w2.heap.size w2 W ->
     Calls Seq.prog 42 #[.slice (some ⟨gg,0,none⟩) (2*m.length+2*l.length) cap1,.func (.func 149) #[] #[.pointer (some ⟨w.heap.size,0,none⟩),.pointer (some ⟨w.heap.size+1+1,0,none⟩),.pointer (some ⟨w.heap.size+1,0,none⟩)]] W fun e w' =>∃n r v',OnlyIs m l bb n r /\ e= .returned (.tuple #[v',.int .i64 n]) /\ w'.ownsRow w.heap.size 54 3 v' r.length (enc3 r) /\ Below w2.heap.size w2 w'):=by
   intro w2 B2 W gg cap1 hv hbW
   have hp:∀t wq,Below w2.heap.size w2 wq -> Calls Seq.prog 149 (#[.int .i64 t]++#[.pointer (some ⟨w.heap.size,0,none⟩),.pointer (some ⟨w.heap.size+1+1,0,none⟩),.pointer (some ⟨w.heap.size+1,0,none⟩)]) wq fun e w' =>(∃x,e= .returned (.tuple #[.int .i64 x,.bool (onlyF m l bb t).isSome]) /\ ∀y,onlyF m l bb t=some y -> x=y) /\ Below wq.heap.size wq w':=by
     intro t wq hq
     have Bq:=B2.below hq
     exact pick1_any g bb eg hg w.heap.size (w.heap.size+1) (w.heap.size+1+1) ao lo ca cl m l t wq (hA.below Bq.bel) (hL.below Bq.bel) la ll Bq.c1 Bq.c2 Bq.c3
   have hbl:=build_own 149 _ (onlyF m l bb) (enters_of Seq.func149 (by kernel_rfl) rfl) w2 W hbW hp gg cap1 (turnsOf m++flat l) (by rw [HLN.out];exact hv) (by rw [HLN.out];omega)
   rw [HLN.out] at hbl
   refine hbl.mono ?_
   rintro e w' ⟨n,r,v',hM,rfl,ho,hb⟩
   exact ⟨n,r,v',.inr (.inr ⟨HE1.out,HE2.out,hM⟩),rfl,ownsRow_base ho B2.bel.size,hb⟩
 have HPA:Hid (∀W,Below w.heap.size w W -> PcAt W ao m /\ IvAt W lo l):=fun W h=>⟨hA.below h,hL.below h⟩
 clear hA hL hg
 go_enter Seq.func140,Tryz.ntmps140
 go_wp2_with fail
 refine (h1 _ B0.bel).mono ?_
 rintro e w1 ⟨rfl,hb1⟩
 have B1:=B0.below hb1
 have cc2:=B1.c2
 have g1:=B1.bel
 clear B0 hb1
 go_wp2_with fail
 refine (h2 _ g1).mono ?_
 rintro e w2 ⟨rfl,hb2⟩
 have B2:=B1.below hb2
 clear g1 hb2 cc2 B1 h1 h2
 have cc1:=B2.c1
 have HB2:=hide3 B2
 have HGF:=hide3 (hgo.out w2 B2)
 clear hgo
 go_wp2_with fail
 refine (pbounds_any ao ca m w2 (HPA.out w2 B2.bel).1 la).mono ?_
 rintro e w3 ⟨g3,rfl,hown3,hb3⟩
 have cc2:=(B2.below hb3).c2
 have HPL:=hide3 (fun W (h:Below w2.heap.size w2 W)=>(HPA.out W (ptw B2.bel h)).2)
 have HBel:=hide3 B2.bel
 clear B2 cc1 HPA
 go_wp2_with fail
 go_loopw [10,27] (fun v i wr=>∃(k gg cc:Nat),k <= l.length /\ i= .int .i64 k /\ v= .slice (some ⟨gg,0,none⟩) (2*m.length+2*k) cc /\ wr.ownsRow w2.heap.size 3 1 (.slice (some ⟨gg,0,none⟩) (2*m.length+2*k) cc) (2*m.length+2*k) ((turnsOf m++flat (l.take k)).map (Value.int .i64)) /\ Below w2.heap.size w2 wr) (fun _ i _=>l.length-(intOf i).toNat)
 case atStart=>exact ⟨0,g3,2*m.length,Nat.zero_le _,rfl,rfl,by simpa [flat] using hown3,hb3⟩
 case round=>
   obtain ⟨k,gg,cc,hk,rfl,rfl,hown,hb⟩:=hrel
   have hsz:=hb.size
   by_cases hlt:k<l.length
   · rcases HPL.out wr hb with h0 | ⟨b,off,rfl,hbw,hc⟩
     · subst h0;simp at hlt
     obtain ⟨c0,c1⟩:=hc k hlt
     have hg:l.getD k (0,0)=l[k]:=by simp [List.getD_eq_getElem?_getD,List.getElem?_eq_getElem hlt]
     rw [hg] at c0 c1
     clear hc hg
     go_wp2_with (at_builtin;refine wpList_append_lies _ rfl _ _ 37 rfl w2.heap.size 3 i0 (.int .i64 0) 1 8 ((Seq.pu 37).trans Tryz.underlying37) hi hz0 hz1 hz2 rfl (by decide) _ (2*m.length+2*k) _ rfl ((hown.alloc _).alloc _) ⟨wr.heap.size+1,0,none⟩ 2 2 [.int .i64 l[k].1,.int .i64 l[k].2] rfl rfl ?c1 ?c2 ?c3 ?c4 ?c5 ?c6 _ rfl ?_)
     case c1=>exact cells_two_new _ _ _ _ _ (by simp)
     case c2=>intro u hu;simp at hu;rcases hu with rfl | rfl<;>rfl
     case c3=>omega
     case c4=>unfold maxLen;omega
     case c5=>omega
     case c6=>simp;omega
     intro g5 cap5 w5 hown5 hgrow hat hltg
     have R:w5.ownsRow w2.heap.size 3 1 (.slice (some ⟨g5,0,none⟩) (2*m.length+2*(k+1)) cap5) (2*m.length+2*(k+1)) ((turnsOf m++flat (l.take (k+1))).map (Value.int .i64)):=by
       rw [flat_succ l k hlt];simp only [List.map_append,List.map_cons,List.map_nil];exact hown5
     have hb' :Below w2.heap.size w2 w5:=((hb.alloc hsz _).alloc (by simp;omega) _).grown hgrow (by simp;omega) (fun j hj=>(hown.lt j hj).1)
     clear hown hown5 hgrow hat hltg
     go_wp2
     go_roundw
     case rel=>exact ⟨k+1,g5,cap5,by omega,by go_num,rfl,R,hb'⟩
     case measure=>simp [intOf];omega
   · have hkl:k=l.length:=by omega
     subst hkl
     rw [List.take_length] at hown
     have hbl:=HGF.out wr gg cc hown hb
     clear hown
     go_wp2_with fail
     refine hbl.mono ?_
     rintro e w6 ⟨n6,r6,v6,hM6,rfl,ho6,hb6⟩
     have HM6:=hide3 hM6
     have hbF:Below w.heap.size w w6:=ptw HBel.out hb6
     clear hM6 hb6 hbl
     go_wp2
     go_ret2
     exact ⟨n6,r6,HM6.out,v6,rfl,ho6,hbF⟩
theorem Keep_fn (x:Bool) (w:World):Calls Seq.prog 141 #[.bool x] w fun e w' =>e= .returned (.bool (x==true)) /\ w' =w:=by
 cases x
 all_goals
   go_enter Seq.func141,Tryz.ntmps141
   go_wp2
   go_ret
   exact ⟨rfl,rfl⟩
theorem Keep_any (ao lo:Option Addr) (ca cl:Nat) (m:List (Int×Int×Int)) (l:List (Int×Int)) (w:World) (hA:PcAt w ao m) (hL:IvAt w lo l):
   Calls Seq.prog 124 #[.slice ao m.length ca,.slice lo l.length cl] w fun e w' =>∃n r,OnlyIs m l true n r /\ Told3 w w' e n r:=by
 have hc:=pick_any 141 true (enters_of Seq.func141 (by kernel_rfl) rfl) Keep_fn ao lo ca cl m l w hA hL
 go_enter Seq.func124,Tryz.ntmps124
 go_wp2_with fail
 refine hc.mono ?_
 rintro e w1 ⟨n,r,hC,v,rfl,ho,hb⟩
 go_wp2
 go_ret2
 exact ⟨_,_,hC,_,rfl,ho,hb⟩
def T100:List Int:=(List.range 101).map fun i:Nat=>(i:Int)
theorem mem_T100 {x:Int}:x∈T100↔0 <= x /\ x <= 100:=by
 unfold T100
 rw [List.mem_map]
 constructor
 · rintro ⟨i,hi,rfl⟩;rw [List.mem_range] at hi;omega
 · intro h;exact ⟨x.toNat,by rw [List.mem_range];omega,by omega⟩
theorem T100_len:T100.length=101:=by simp [T100]
structure Sm (B:Int) (m:List (Int×Int×Int)):Prop where
 canon:MCan m
 time:∀q∈m,0 <= q.1 /\ q.2.1 <= 100
 vals:∀q∈m,0 <= q.2.2 /\ q.2.2 <= B
theorem sm_nil (B:Int):Sm B []:=⟨trivial,fun q hq=>(by cases hq),fun q hq=>(by cases hq)⟩
theorem Sm.mono {B B' :Int} {m:List (Int×Int×Int)} (h:Sm B m) (hB:B <= B'):Sm B' m:=⟨h.canon,h.time,fun q hq=>by have:=h.vals q hq;omega⟩
theorem Sm.of {B:Int} {m:List (Int×Int×Int)} (h:Sm B m) (hB:B <= 1000000):MOf T100 m:=by
 refine ⟨h.canon,fun q hq=> ?_,fun q hq=> ?_⟩
 · have h1:=h.time q hq
   have h2:=h.vals q hq
   have h3:=mcan_pos h.canon q hq
   unfold NearP nearB;omega
 · have h1:=h.time q hq
   have h3:=mcan_pos h.canon q hq
   exact ⟨mem_T100.2 (by omega),mem_T100.2 (by omega)⟩
theorem Sm.len {B:Int} {m:List (Int×Int×Int)} (h:Sm B m) (hB:B <= 1000000):m.length <= 101:=by have:=(h.of hB).len;rw [T100_len] at this;exact this
theorem Sm.chk {B:Int} {m:List (Int×Int×Int)} (h:Sm B m) (hB:B <= 1000000):mchk m=0:=(h.of hB).chk (by rw [T100_len];omega)
theorem Sm.turns {B:Int} {m:List (Int×Int×Int)} (h:Sm B m) (hB:B <= 1000000):∀x∈turnsOf m,0 <= x /\ x <= 100:=fun x hx=>mem_T100.1 ((h.of hB).turns x hx)
theorem tel_start:∀{m:List (Int×Int×Int)},MCan m -> ∀q∈m,tel m q.1=some q.2.2
 | [],_,q,hq=>by cases hq
 | p::m,h,q,hq=>by
   rcases List.mem_cons.1 hq with rfl | hq
   · exact tel_first (Int.le_refl _) h.1
   · rw [tel_later (mcan_low h q hq)];exact tel_start h.2.2 q hq
theorem Sm.tel {B:Int} {m:List (Int×Int×Int)} (h:Sm B m) {t v:Int} (e:tel m t=some v):(0 <= v /\ v <= B) /\ 0 <= t /\ t<100:=by
 obtain ⟨q,hq,h1,rfl⟩:=tel_mem e
 unfold inP at h1
 have:=h.time q hq
 simp at h1
 exact ⟨h.vals q hq,by omega,by omega⟩
theorem sm_map {A:List Int} {f:Int -> Option Int} {n B:Int} {r:List (Int×Int×Int)} (h:MapIs A f n r) (hf:∀S,(∀x,x∈S↔x∈A) -> MTurns S f) (hB:B <= 1000000) (hv:∀s v,f s=some v -> 0 <= v /\ v <= B) (hA:∀x∈A,0 <= x /\ x <= 100):n=0 /\ Sm B r /\ ∀t,Go.Proofs.YtfphigmeppdocaaGreat.Q.tel r t=f t:=by
 obtain ⟨h1,h2,h3⟩:=mapIs_ok (T:=T100) h hf (fun s v e=>by have:=hv s v e;unfold nearB;omega) (fun x hx=>by have:=hA x hx;unfold nearB;omega) (fun x hx=>mem_T100.2 (hA x hx)) (by rw [T100_len];omega)
 refine ⟨h1,⟨h2.canon,fun q hq=>⟨(mem_T100.1 (h2.mem q hq).1).1,(mem_T100.1 (h2.mem q hq).2).2⟩,fun q hq=> ?_⟩,h3⟩
 exact hv q.1 _ (by rw [<- h3];exact tel_start h2.canon q hq)
theorem sm_merge {a b r:List (Int×Int×Int)} {n B:Int} (ha:Sm B a) (hb:Sm B b) (hB:B <= 1000000) (h:MergeIs a b 1 n r):n=0 /\ Sm B r /\ ∀t,tel r t=mrg 1 (tel a t) (tel b t):=by
 rcases h with ⟨e,_⟩ | ⟨_,e,_⟩ | ⟨_,_,e,_⟩ | ⟨_,_,_,h⟩
 · exact absurd (ha.chk hB) e
 · exact absurd (hb.chk hB) e
 · exact absurd (.inl rfl) e
 · refine sm_map h (fun S hS=>mergeF_turns hS) hB (fun s v e=> ?_) (fun x hx=> ?_)
   · unfold mergeF at e
     cases e1:tel a s with
     | none=>
       rw [e1] at e
       exact (hb.tel e).1
     | some x=>
       cases e2:tel b s with
       | none=>rw [e1,e2] at e;cases e;exact (ha.tel e1).1
       | some y=>
         rw [e1,e2] at e
         have:=(ha.tel e1).1
         have:=(hb.tel e2).1
         have:v=min x y:=(Option.some.inj e).symm
         omega
   · rcases List.mem_append.1 hx with hx | hx
     · exact ha.turns hB x hx
     · exact hb.turns hB x hx
theorem sm_put {m r:List (Int×Int×Int)} {p:Int×Int×Int} {n B:Int} (hm:Sm B m) (h1:0 <= p.1 /\ p.1 <= 100 /\ 0 <= p.2.1 /\ p.2.1 <= 100) (h2:0 <= p.2.2 /\ p.2.2 <= B) (hB:B <= 1000000) (h:PutIs m p n r):n=0 /\ Sm B r /\ ∀t,tel r t=putF m p t:=by
 rcases h with ⟨e,_⟩ | ⟨_,e,_⟩ | ⟨_,_,h⟩
 · exact absurd (hm.chk hB) e
 · exact absurd (by unfold NearP nearB;omega) e
 · refine sm_map h (fun S hS=>putF_turns hS) hB (fun s v e=> ?_) (fun x hx=> ?_)
   · unfold putF at e
     split at e
     · cases e;exact h2
     · exact (hm.tel e).1
   · rcases List.mem_append.1 hx with hx | hx
     · exact hm.turns hB x hx
     · simp at hx;omega
theorem sm_keep {m r:List (Int×Int×Int)} {f t n B:Int} (hm:Sm B m) (h1:0 <= f /\ f<t /\ t <= 100) (hB:B <= 1000000) (h:OnlyIs m [(f,t)] true n r):n=0 /\ Sm B r /\ ∀s,tel r s=if f <= s /\ s<t then tel m s else none:=by
 have hc:chk [(f,t)]=0:=chk_of_canon (by unfold Canon;simp [flat];omega) (by intro x hx;simp [flat] at hx;unfold nearB;omega) (by simp)
 rcases h with ⟨e,_⟩ | ⟨_,e,_⟩ | ⟨_,_,h⟩
 · exact absurd (hm.chk hB) e
 · exact absurd hc e
 · obtain ⟨g1,g2,g3⟩:=sm_map h (fun S hS=>onlyF_turns hS) hB (fun s v e=>by unfold onlyF at e;split at e;exact (hm.tel e).1;cases e) (fun x hx=>by
     rcases List.mem_append.1 hx with hx | hx
     · exact hm.turns hB x hx
     · simp [flat] at hx;omega)
   refine ⟨g1,g2,fun s=> ?_⟩
   rw [g3 s]
   unfold onlyF
   by_cases hs:f <= s /\ s<t
   · rw [if_pos hs,if_pos (by simp [has,hs])]
   · rw [if_neg hs,if_neg (by simp [has];omega)]
def addM (m:List (Int×Int×Int)) (k:Int):List (Int×Int×Int):=m.map fun q=>(q.1,q.2.1,q.2.2+k)
theorem addM_mcan (k:Int):∀{m:List (Int×Int×Int)},MCan m -> MCan (addM m k)
 | [],_=>trivial
 | p::m,h=>by
   refine ⟨h.1,fun q hq=> ?_,addM_mcan k h.2.2⟩
   cases m with
   | nil=>simp at hq
   | cons z m=>
     have e:q=(z.1,z.2.1,z.2.2+k):=by simpa [eq_comm] using hq
     subst e
     have:=h.2.1 z (by simp)
     unfold Fol at this ⊢
     simp at this ⊢
     omega
theorem addM_tel (k:Int):∀(m:List (Int×Int×Int)) (t:Int),tel (addM m k) t=(tel m t).map (·+k)
 | [],t=>rfl
 | p::m,t=>by
   show tel ((p.1,p.2.1,p.2.2+k)::addM m k) t=_
   rw [tel_cons,tel_cons,addM_tel k m t]
   have:inP (p.1,p.2.1,p.2.2+k) t=inP p t:=rfl
   rw [this]
   split<;>rfl
theorem sm_add {B k:Int} {m:List (Int×Int×Int)} (h:Sm B m) (hk:0 <= k):Sm (B+k) (addM m k):=by
 refine ⟨addM_mcan k h.canon,fun q hq=> ?_,fun q hq=> ?_⟩
 all_goals
   unfold addM at hq
   rw [List.mem_map] at hq
   obtain ⟨z,hz,rfl⟩:=hq
 · exact h.time z hz
 · have:=h.vals z hz
   show 0 <= z.2.2+k /\ z.2.2+k <= B+k
   omega
structure RndIs (W:List Ac) (p:Ac -> Int) (x y:List Int):Prop where
 len:y.length=x.length
 le:∀v,v<x.length -> y.getD v 0 <= x.getD v 0
 tell:∀a∈W,y.getD a.2.1.toNat 0 <= x.getD a.1.toNat 0+p a
 from_:∀v,v<x.length -> y.getD v 0=x.getD v 0 \/ ∃a∈W,a.2.1.toNat=v /\ y.getD v 0=x.getD a.1.toNat 0+p a
theorem rndIs_unique {W:List Ac} {p:Ac -> Int} {x y y' :List Int} (h:RndIs W p x y) (h' :RndIs W p x y'):y=y':=by
 have half:∀{y y' :List Int},RndIs W p x y -> RndIs W p x y' -> ∀v,v<x.length -> y.getD v 0 <= y'.getD v 0:=by
   intro y y' h h' v hv
   rcases h'.from_ v hv with e | ⟨a,ha,rfl,e⟩
   · rw [e];exact h.le v hv
   · rw [e];exact h.tell a ha
 apply List.ext_getElem (by rw [h.len,h'.len])
 intro i h1 h2
 have a:=half h h' i (by rw [<- h.len];exact h1)
 have b:=half h' h i (by rw [<- h.len];exact h1)
 simp only [List.getD_eq_getElem?_getD,List.getElem?_eq_getElem h1,List.getElem?_eq_getElem h2,Option.getD_some] at a b
 omega
structure RnIs (arcs:List Ac) (p:Ac -> Int) (back:Bool) (x z:List Int):Prop where
 len:z.length=x.length
 le:∀v,v<x.length -> z.getD v 0 <= x.getD v 0
 tell:∀a∈ways back arcs,z.getD a.2.1.toNat 0 <= x.getD a.1.toNat 0+p a
 from_:∀v,v<x.length -> z.getD v 0=x.getD v 0 \/ ∃a∈ways back arcs,a.2.1.toNat=v /\ z.getD v 0=x.getD a.1.toNat 0+p a
theorem ways_append (back:Bool) (l:List Ac) (a:Ac):ways back (l++[a])=ways back l++if back=true then [a,(a.2.1,a.1,a.2.2)] else [a]:=by
 unfold ways bothW
 cases back<;>simp
theorem set_min (z:List Int) (k:Nat) (m:Int) (hk:k<z.length) (v:Nat):(z.set k (min (z.getD k 0) m)).getD v 0=if v=k then min (z.getD k 0) m else z.getD v 0:=getD_set _ _ _ _ hk
theorem rnIs_one {x z:List Int} {p:Ac -> Int} {W:List Ac} {k:Nat} {b:Ac} (hz:z.length=x.length) (hk:k<x.length) (hb:b.2.1.toNat=k)
   (le:∀v,v<x.length -> z.getD v 0 <= x.getD v 0) (tell:∀a∈W,z.getD a.2.1.toNat 0 <= x.getD a.1.toNat 0+p a)
   (from_:∀v,v<x.length -> z.getD v 0=x.getD v 0 \/ ∃a∈W,a.2.1.toNat=v /\ z.getD v 0=x.getD a.1.toNat 0+p a) (m:Int) (hm:m=x.getD b.1.toNat 0+p b):
   (∀v,v<x.length -> (z.set k (min (z.getD k 0) m)).getD v 0 <= x.getD v 0) /\ (∀a∈W++[b],(z.set k (min (z.getD k 0) m)).getD a.2.1.toNat 0 <= x.getD a.1.toNat 0+p a) /\
   (∀v,v<x.length -> (z.set k (min (z.getD k 0) m)).getD v 0=x.getD v 0 \/ ∃a∈W++[b],a.2.1.toNat=v /\ (z.set k (min (z.getD k 0) m)).getD v 0=x.getD a.1.toNat 0+p a):=by
 have low:∀v,(z.set k (min (z.getD k 0) m)).getD v 0 <= z.getD v 0:=by
   intro v
   rw [set_min z k m (by omega)]
   split
   · rename_i e;subst e;omega
   · exact Int.le_refl _
 refine ⟨fun v hv=>Int.le_trans (low v) (le v hv),fun a ha=> ?_,fun v hv=> ?_⟩
 · rcases List.mem_append.1 ha with ha | ha
   · exact Int.le_trans (low _) (tell a ha)
   · rw [List.mem_singleton] at ha
     subst ha
     rw [set_min z k m (by omega),if_pos hb,hm]
     omega
 · rw [set_min z k m (by omega)]
   by_cases e:v=k
   · subst e
     rw [if_pos rfl]
     by_cases hl:z.getD v 0 <= m
     · rw [show min (z.getD v 0) m=z.getD v 0 by omega]
       rcases from_ v hv with h | ⟨a,ha,h1,h2⟩
       · exact .inl h
       · exact .inr ⟨a,List.mem_append_left _ ha,h1,h2⟩
     · exact .inr ⟨b,by simp,hb,by rw [show min (z.getD v 0) m=m by omega];exact hm⟩
   · rw [if_neg e]
     rcases from_ v hv with h | ⟨a,ha,h1,h2⟩
     · exact .inl h
     · exact .inr ⟨a,List.mem_append_left _ ha,h1,h2⟩
theorem rnd_is {arcs:List Ac} {p:Ac -> Int} {back:Bool} {x:List Int} (he:back=true -> Even p) (hE:EndsIn x.length arcs):RndIs (ways back arcs) p x (rnd arcs p back x):=by
 have key:∀i,i <= arcs.length -> RnIs (arcs.take i) p back x ((arcs.take i).foldl (rel1 p back x) x):=by
   intro i
   induction i with
   | zero=>
     intro _
     refine ⟨rfl,fun _ _=>Int.le_refl _,fun a ha=> ?_,fun v _=> .inl rfl⟩
     simp [ways,bothW] at ha
   | succ i ih=>
     intro hi
     have hi' :i<arcs.length:=hi
     obtain ⟨h1,h2,h3,h4⟩:=ih (by omega)
     have en:=hE arcs[i] (List.getElem_mem hi')
     rw [fold_take arcs p back x i hi',List.take_succ_eq_append_getElem hi']
     generalize (arcs.take i).foldl (rel1 p back x) x=z at h1 h2 h3 h4 ⊢
     generalize arcs[i]=a at en ⊢
     generalize arcs.take i=l at h3 h4 ⊢
     obtain ⟨q1,q2,q3⟩:=rnIs_one (b:=a) (k:=a.2.1.toNat) h1 (by omega) rfl h2 h3 h4 (x.getD a.1.toNat 0+p a) rfl
     unfold rel1 vat
     cases back with
     | false=>
       simp only [Bool.false_eq_true,if_false]
       refine ⟨by rw [List.length_set];exact h1,q1,?_,?_⟩
       · rw [ways_append];simpa using q2
       · rw [ways_append];simpa using q3
     | true=>
       simp only [if_true]
       obtain ⟨r1,r2,r3⟩:=rnIs_one (z:=z.set a.2.1.toNat (min (z.getD a.2.1.toNat 0) (x.getD a.1.toNat 0+p a))) (b:=(a.2.1,a.1,a.2.2)) (k:=a.1.toNat) (by rw [List.length_set];exact h1) (by omega) rfl q1 q2 q3 (x.getD a.2.1.toNat 0+p a) (by rw [he rfl a])
       refine ⟨by rw [List.length_set,List.length_set];exact h1,r1,?_,?_⟩
       · rw [ways_append];simpa [List.append_assoc] using r2
       · rw [ways_append];simpa [List.append_assoc] using r3
 obtain ⟨h1,h2,h3,h4⟩:=key arcs.length (Nat.le_refl _)
 rw [List.take_length] at h1 h2 h3 h4
 exact ⟨h1,h2,h3,h4⟩
structure NewAt (W:List Ac) (p:Ac -> Int) (x:List Int) (nw:Nat -> Option Int):Prop where
 val:∀v z,v<x.length -> nw v=some z -> z=x.getD v 0
 old:∀a∈W,nw a.1.toNat=none -> x.getD a.2.1.toNat 0 <= x.getD a.1.toNat 0+p a
structure HeardAt (W:List Ac) (p:Ac -> Int) (nw he:Nat -> Option Int):Prop where
 most:∀a∈W,∀z,nw a.1.toNat=some z -> ∃h,he a.2.1.toNat=some h /\ h <= z+p a
 from_:∀v h,he v=some h -> ∃a∈W,a.2.1.toNat=v /\ ∃z,nw a.1.toNat=some z /\ h=z+p a
theorem news_round {W:List Ac} {p:Ac -> Int} {x y:List Int} {nw he:Nat -> Option Int} (hE:EndsIn x.length W) (hN:NewAt W p x nw) (hH:HeardAt W p nw he) (hR:RndIs W p x y):
   ∀v,v<x.length -> y.getD v 0=(match he v with | some h=>min (x.getD v 0) h | none=>x.getD v 0):=by
 have h2:RndIs W p x ((List.range x.length).map fun v=>match he v with | some h=>min (x.getD v 0) h | none=>x.getD v 0):=by
   have g:∀v,v<x.length -> ((List.range x.length).map fun v=>match he v with | some h=>min (x.getD v 0) h | none=>x.getD v 0).getD v 0=match he v with | some h=>min (x.getD v 0) h | none=>x.getD v 0:=by
     intro v hv
     rw [List.getD_eq_getElem?_getD,List.getElem?_map,List.getElem?_range hv];rfl
   refine ⟨by simp,fun v hv=> ?_,fun a ha=> ?_,fun v hv=> ?_⟩
   · rw [g v hv]
     cases he v with
     | none=>exact Int.le_refl _
     | some h=>show min _ _ <= _;omega
   · have en:=hE a ha
     rw [g _ (by omega)]
     cases hn:nw a.1.toNat with
     | none=>
       have:=hN.old a ha hn
       cases he a.2.1.toNat with
       | none=>exact this
       | some h=>show min _ _ <= _;omega
     | some z=>
       have hz:=hN.val _ z (by omega) hn
       obtain ⟨h,e1,e2⟩:=hH.most a ha z hn
       rw [e1]
       show min _ _ <= _
       omega
   · rw [g v hv]
     cases hh:he v with
     | none=>exact .inl rfl
     | some h=>
       by_cases hl:x.getD v 0 <= h
       · left;show min _ _=_;omega
       · obtain ⟨a,ha,e1,z,e2,e3⟩:=hH.from_ v h hh
         have en:=hE a ha
         have hz:=hN.val _ z (by omega) e2
         refine .inr ⟨a,ha,e1,?_⟩
         show min _ _=_
         rw [<- hz];omega
 intro v hv
 rw [rndIs_unique hR h2]
 rw [List.getD_eq_getElem?_getD,List.getElem?_map,List.getElem?_range hv];rfl
def newsOf (x y:List Int) (v:Nat):Option Int:=if y.getD v 0<x.getD v 0 then some (y.getD v 0) else none
theorem news_next {W:List Ac} {p:Ac -> Int} {x y:List Int} (hE:EndsIn x.length W) (hR:RndIs W p x y):NewAt W p y (newsOf x y):=by
 refine ⟨fun v z _ h=> ?_,fun a ha h=> ?_⟩
 · unfold newsOf at h
   split at h
   · cases h;rfl
   · cases h
 · have en:=hE a ha
   have h1:=hR.tell a ha
   have h2:=hR.le a.1.toNat (by omega)
   unfold newsOf at h
   split at h
   · cases h
   · omega
theorem news_first {W:List Ac} {p:Ac -> Int} {x:List Int} (nw:Nat -> Option Int) (hp:∀a∈W,0 <= p a) (hE:EndsIn x.length W) (hi:∀v,v<x.length -> x.getD v 0 <= 1099511627776) (h:∀v,v<x.length -> nw v=if x.getD v 0<1099511627776 then some (x.getD v 0) else none):NewAt W p x nw:=by
 refine ⟨fun v z hv hz=> ?_,fun a ha hn=> ?_⟩
 · rw [h v hv] at hz
   split at hz
   · cases hz;rfl
   · cases hz
 · have en:=hE a ha
   have h1:=hp a ha
   have h2:=hi a.2.1.toNat (by omega)
   rw [h _ (by omega)] at hn
   split at hn
   · cases hn
   · omega
theorem news_none {W:List Ac} {p:Ac -> Int} {x y:List Int} (hR:RndIs W p x y) (h:∀v,v<x.length -> newsOf x y v=none):y=x:=by
 apply List.ext_getElem hR.len
 intro i h1 h2
 have a:=hR.le i h2
 have b:=h i h2
 unfold newsOf at b
 split at b
 · cases b
 · rename_i c
   simp only [List.getD_eq_getElem?_getD,List.getElem?_eq_getElem h1,List.getElem?_eq_getElem h2,Option.getD_some] at a c
   omega
end Go.Proofs.YtfphigmeppdocaaGreat.Q
