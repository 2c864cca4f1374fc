/-
  Several texts in one.
-/
import Derived.Sort.OwnSortedInts
import Derived.Lib.SlicesCompact
import Derived.Test.YtfphigmeppdocaaGreatPk8
namespace Go.Proofs.YtfphigmeppdocaaGreat.Q
open Lo (Seq.prog)
open Go.RowKit
theorem Near_three (B:Nat) (x y z:Int) (w:World) (hB:B<w.heap.size) (c0:w.cell? ⟨B,0,none⟩=some (.int .i64 x)) (c1:w.cell? ⟨B,1,none⟩=some (.int .i64 y)) (c2:w.cell? ⟨B,2,none⟩=some (.int .i64 z)):
   Calls Seq.prog 86 #[.slice (some ⟨B,0,none⟩) 3 3] w fun e w' =>e= .returned (.bool (nrB x&&(nrB y&&nrB z))) /\ w' =w:=by
 have h:=Near_any (some ⟨B,0,none⟩) 3 [x,y,z] w (.inr ⟨B,0,rfl,hB,fun j hj=>by
   match j,hj with
   | 0,_=>exact c0
   | 1,_=>exact c1
   | 2,_=>exact c2⟩) (by simp)
 simpa using h
def nr3 (x y z:Int):Bool:=nrB x&&(nrB y&&nrB z)
theorem nr3_iff (p:Int×Int×Int):nr3 p.1 p.2.1 p.2.2=true↔NearP p:=by
 unfold nr3 NearP
 rw [Bool.and_eq_true,Bool.and_eq_true,nrB_iff,nrB_iff,nrB_iff]
theorem pnear_any (x y z:Int) (w:World):
   Calls Seq.prog 68 #[.agg #[.int .i64 x,.int .i64 y,.int .i64 z]] w fun e w' =>e= .returned (.bool (nr3 x y z)) /\ Below w.heap.size w w':=by
 go_enter Seq.func68,Tryz.ntmps68
 go_wp2_with fail
 refine (Near_three (w.heap.size+1) x y z _ (by simp) (by simp) (by simp) (by simp)).mono ?_
 rintro e w1 ⟨rfl,rfl⟩
 go_wp2
 go_ret
 exact ⟨rfl,ptw (pal _ _) (pal _ _)⟩
def inB (a b x:Int):Bool:=decide (a <= x)&&decide (x<b)
theorem phas_any (a b v t:Int) (w:World):
   Calls Seq.prog 35 #[.agg #[.int .i64 a,.int .i64 b,.int .i64 v],.int .i64 t] w fun e w' =>e= .returned (.bool (inB a b t)) /\ Below w.heap.size w w':=by
 have HB:Hid (∀o,Below w.heap.size w (w.alloc o)):=fun o=>pal w o
 by_cases g1:a <= t
 · by_cases g2:t<b
   · have HC:Hid (inB a b t=true):=by show _=_;unfold inB;simp [g1,g2]
     go_enter Seq.func35,Tryz.ntmps35
     go_wp2
     go_ret
     exact ⟨ret_bool HC.out.symm,HB.out _⟩
   · have HC:Hid (inB a b t=false):=by show _=_;unfold inB;simp [g2]
     go_enter Seq.func35,Tryz.ntmps35
     go_wp2
     go_ret
     exact ⟨ret_bool HC.out.symm,HB.out _⟩
 · have HC:Hid (inB a b t=false):=by show _=_;unfold inB;simp [g1]
   go_enter Seq.func35,Tryz.ntmps35
   go_wp2
   go_ret
   exact ⟨ret_bool HC.out.symm,HB.out _⟩
def flB (b v a' v' :Int):Bool:=decide (b<a')||(b==a' &&v !=v')
theorem follows_any (a b v a' b' v' :Int) (w:World):
   Calls Seq.prog 69 #[.agg #[.int .i64 a,.int .i64 b,.int .i64 v],.agg #[.int .i64 a',.int .i64 b',.int .i64 v']] w fun e w' =>e= .returned (.bool (flB b v a' v')) /\ Below w.heap.size w w':=by
 have HB:Hid (∀o o',Below w.heap.size w ((w.alloc o).alloc o')):=fun o o' =>ptw (pal w o) (pal _ o')
 by_cases g1:b<a'
 · have HC:Hid (flB b v a' v' =true):=by show _=_;unfold flB;simp [g1]
   go_enter Seq.func69,Tryz.ntmps69
   go_wp2
   go_ret
   exact ⟨ret_bool HC.out.symm,HB.out _ _⟩
 · by_cases g2:b=a'
   · by_cases g3:v=v'
     · have HC:Hid (flB b v a' v' =false):=by show _=_;unfold flB;simp [g2,g3]
       subst g2
       subst g3
       go_enter Seq.func69,Tryz.ntmps69
       go_wp2
       go_ret
       exact ⟨ret_bool (by first | (rw [HC.out];simp;done) | rw [HC.out]),HB.out _ _⟩
     · have HC:Hid (flB b v a' v' =true):=by show _=_;unfold flB;simp [g2,g3]
       have e3:(v !=v')=true:=by simp [g3]
       subst g2
       go_enter Seq.func69,Tryz.ntmps69
       go_wp2
       go_ret
       exact ⟨ret_bool (by first | (rw [HC.out];simp [e3];done) | rw [HC.out]),HB.out _ _⟩
   · have HC:Hid (flB b v a' v' =false):=by show _=_;unfold flB;simp [g1,g2]
     have e2:(b==a')=false:=by simp [g2]
     go_enter Seq.func69,Tryz.ntmps69
     go_wp2
     go_ret
     exact ⟨ret_bool (by rw [HC.out]),HB.out _ _⟩
theorem getD3 {m:List (Int×Int×Int)} {k:Nat} (h:k<m.length):m.getD k (0,0,0)=m[k]:=by simp [List.getD_eq_getElem?_getD,List.getElem?_eq_getElem h]
theorem PcAt.get {w:World} {b off:Nat} {m:List (Int×Int×Int)} {k:Nat} (hk:k<m.length) (hc:∀j,j<m.length -> w.cell? ⟨b,off+j*3,none⟩=some (.int .i64 (m.getD j (0,0,0)).1) /\ w.cell? ⟨b,off+j*3+1,none⟩=some (.int .i64 (m.getD j (0,0,0)).2.1) /\ w.cell? ⟨b,off+j*3+2,none⟩=some (.int .i64 (m.getD j (0,0,0)).2.2)):
   w.cell? ⟨b,off+k*3,none⟩=some (.int .i64 m[k].1) /\ w.cell? ⟨b,off+k*3+1,none⟩=some (.int .i64 m[k].2.1) /\ w.cell? ⟨b,off+k*3+2,none⟩=some (.int .i64 m[k].2.2):=by
 have:=hc k hk
 rwa [getD3 hk] at this
set_option maxHeartbeats 1000000 in
theorem PAt_any (ao:Option Addr) (cap:Nat) (m:List (Int×Int×Int)) (t:Int) (w:World) (hl:PcAt w ao m) (hn:m.length <= 9223372036854775807):
   Calls Seq.prog 11 #[.slice ao m.length cap,.int .i64 t] w fun e w' =>e= .returned (.tuple #[.int .i64 ((tel m t).getD 0),.bool (tel m t).isSome]) /\ Below w.heap.size w w':=by
 go_enter Seq.func11,Tryz.ntmps11
 go_wp2
 go_loopw [10] (fun i wr=>∃k:Nat,k <= m.length /\ i= .int .i64 k /\ tel (m.take k) t=none /\ Below w.heap.size w wr) (fun i _=>m.length-(intOf i).toNat)
 case atStart=>exact ⟨0,Nat.zero_le _,rfl,rfl,Below.refl _ _⟩
 case round=>
   obtain ⟨k,hk,rfl,hh,hb⟩:=hrel
   have HH:Hid (tel (m.take k) t=none):=hh
   clear hh
   by_cases hlt:k<m.length
   · rcases hl.below hb with h0 | ⟨b,off,rfl,hbw,hc⟩
     · subst h0;simp at hlt
     obtain ⟨c0,c1,c2⟩:=PcAt.get hlt hc
     have HB:Hid (Below w.heap.size w wr):=hb
     clear hc hl hb
     go_wp2_with fail
     refine (phas_any m[k].1 m[k].2.1 m[k].2.2 t _).mono ?_
     rintro e w1 ⟨rfl,hb1⟩
     have hb' :Below w.heap.size w w1:=ptw (ptw HB.out (pal _ _)) hb1
     have d2:=hb1.cell (p:=⟨wr.heap.size,2,none⟩) (by simp)
     have d2:w1.cell? ⟨wr.heap.size,2,none⟩=some (.int .i64 m[k].2.2):=d2.trans (by simp)
     clear hb1 c0 c1 c2
     cases hp:inP m[k] t with
     | true=>
       have e1:inB m[k].1 m[k].2.1 t=true:=hp
       have HC:Hid (tel m t=some m[k].2.2):=tel_take_yes hlt HH.out hp
       rw [e1]
       clear hp e1
       go_wp2
       go_ret2
       exact ⟨by rw [HC.out];rfl,hb'⟩
     | false=>
       have e1:inB m[k].1 m[k].2.1 t=false:=hp
       have HC:Hid (tel (m.take (k+1)) t=none):=tel_take_no hlt HH.out hp
       rw [e1]
       clear hp e1
       go_wp2
       go_roundw
       case rel=>exact ⟨k+1,by omega,by go_num,HC.out,hb'⟩
       case measure=>simp [intOf];omega
   · have hkl:k=m.length:=by omega
     subst hkl
     have HC:Hid (tel m t=none):=by have:=HH.out;rwa [List.take_length] at this
     go_wp2
     go_ret2
     exact ⟨by rw [HC.out];rfl,hb⟩
structure Kp (w wr w1:World) (b o:Nat) (p q:Int×Int×Int):Prop where
 k0:w1.cell? ⟨wr.heap.size,0,none⟩=some (.int .i64 p.1)
 k1:w1.cell? ⟨wr.heap.size,1,none⟩=some (.int .i64 p.2.1)
 k2:w1.cell? ⟨wr.heap.size,2,none⟩=some (.int .i64 p.2.2)
 q0:w1.cell? ⟨b,o,none⟩=some (.int .i64 q.1)
 q1:w1.cell? ⟨b,o+1,none⟩=some (.int .i64 q.2.1)
 q2:w1.cell? ⟨b,o+2,none⟩=some (.int .i64 q.2.2)
 bel:Below w.heap.size w w1
 sz:wr.heap.size+1 <= w1.heap.size
 lt:b<wr.heap.size
theorem kp_start {w wr w1:World} {b o:Nat} {p q:Int×Int×Int} {T:Nat} (hb:Below w.heap.size w wr) (hbw:b<wr.heap.size) (c0:wr.cell? ⟨b,o,none⟩=some (.int .i64 q.1)) (c1:wr.cell? ⟨b,o+1,none⟩=some (.int .i64 q.2.1)) (c2:wr.cell? ⟨b,o+2,none⟩=some (.int .i64 q.2.2))
   (h:Below (wr.alloc (.cells #[.int .i64 p.1,.int .i64 p.2.1,.int .i64 p.2.2] T)).heap.size (wr.alloc (.cells #[.int .i64 p.1,.int .i64 p.2.1,.int .i64 p.2.2] T)) w1):Kp w wr w1 b o p q:=by
 have hA:Below wr.heap.size wr w1:=ptw (pal _ _) h
 refine ⟨(h.cell (p:=⟨wr.heap.size,0,none⟩) (by simp)).trans (by simp),(h.cell (p:=⟨wr.heap.size,1,none⟩) (by simp)).trans (by simp),(h.cell (p:=⟨wr.heap.size,2,none⟩) (by simp)).trans (by simp),?_,?_,?_,ptw hb hA,by have:=h.size;simpa using this,hbw⟩
 · rw [hA.cell (p:=⟨b,o,none⟩) hbw];exact c0
 · rw [hA.cell (p:=⟨b,o+1,none⟩) hbw];exact c1
 · rw [hA.cell (p:=⟨b,o+2,none⟩) hbw];exact c2
def ext (out:List (Int×Int×Int)) (p:Int×Int×Int):List (Int×Int×Int):=
 match out.getLast? with
 | none=>out++[p]
 | some q=>if folB q p then out++[p] else out.dropLast++[(q.1,p.2.1,q.2.2)]
theorem ext_nil (p:Int×Int×Int):ext [] p=[]++[p]:=rfl
theorem ext_yes {o:List (Int×Int×Int)} {q p:Int×Int×Int} (h:folB q p=true):ext (o++[q]) p=o++[q]++[p]:=by unfold ext;simp [h]
theorem ext_no {o:List (Int×Int×Int)} {q p:Int×Int×Int} (h:folB q p=false):ext (o++[q]) p=o++[(q.1,p.2.1,q.2.2)]:=by unfold ext;simp [h]
set_option maxRecDepth 100000 in
set_option maxHeartbeats 4000000 in
theorem extend_any (base:Nat) (v:Value) (out:List (Int×Int×Int)) (p:Int×Int×Int) (w:World) (hown:w.ownsRow base 54 3 v out.length (enc3 out)) (hbase:base <= w.heap.size) (hlen:out.length <= 1000):
   Calls Seq.prog 71 #[v,.agg #[.int .i64 p.1,.int .i64 p.2.1,.int .i64 p.2.2]] w fun e w' =>∃v',e= .returned v' /\ w'.ownsRow base 54 3 v' (ext out p).length (enc3 (ext out p)) /\ Below base w w':=by
 obtain ⟨i0,hi,hz0,hz1,hz2⟩:=info_parts Tryz.infoPiece
 obtain ⟨vo,vc,hve,_⟩:=pcAt_of_owns hown
 rcases List.eq_nil_or_concat out with h0 | ⟨o,q,h0⟩
 · subst h0
   subst hve
   rw [ext_nil]
   simp only [List.length_nil] at hown
   go_enter Seq.func71,Tryz.ntmps71
   go_wp2
   go_quiet (fail)
   go_wp2_with (at_builtin;refine wpList_append_own _ rfl _ _ 41 rfl base 54 i0 (.agg #[.int .i64 0,.int .i64 0,.int .i64 0]) 3 24 ((Seq.pu 41).trans Tryz.underlying41) hi hz0 hz1 hz2 rfl (by decide) _ _ _ rfl (World.ownsRow.alloc (World.ownsRow.alloc (w:=w) hown _) _) ⟨w.heap.size+1,0,none⟩ 1 1 [.int .i64 p.1,.int .i64 p.2.1,.int .i64 p.2.2] rfl rfl ?c1 ?c2 ?c3 ?c4 ?c5 ?_)
   case c1=>exact cells_three_new _ _ _ _ _ _ (by simp)
   case c2=>intro u hu;simp at hu;rcases hu with rfl | rfl | rfl<;>rfl
   case c3=>unfold maxLen;omega
   case c4=>omega
   case c5=>simp;omega
   intro v' w1 hown' hgrow _
   have R:w1.ownsRow base 54 3 v' ([]++[p]).length (enc3 ([]++[p])):=by
     rw [enc3_append,List.length_append];exact hown'
   have hb' :Below base w w1:=((below_drewN ((Below.refl base w).alloc hbase _) _).alloc (by simp;omega) _).grown hgrow (by simp;omega) (fun j hj=>(hown.lt j hj).1)
   clear hown hown' hgrow
   go_wp2
   go_ret
   exact ⟨_,rfl,R,hb'⟩
 · rw [List.concat_eq_append] at h0
   have hom:out.length=o.length+1:=by rw [h0];simp
   have HO:Hid (out=o++[q]):=h0
   have fp:=flat3_getD out o.length (by omega)
   have hgp:out.getD o.length (0,0,0)=q:=by rw [h0];simp
   rw [hgp] at fp
   rcases hown.2 with ⟨_,h9⟩ | ⟨g,vc',cur,e9,hbs,hh,h1,h2,h4,h5⟩
   · omega
   have hown':=hown
   rw [e9,hom] at hown'
   have hgl:=hown'.lt g rfl
   have cq0:w.cell? ⟨g,o.length*3,none⟩=some (.int .i64 q.1):=by rw [hown'.cellAt (o.length*3) (by omega)];simp [enc3,fp.1]
   have cq1:w.cell? ⟨g,o.length*3+1,none⟩=some (.int .i64 q.2.1):=by rw [hown'.cellAt (o.length*3+1) (by omega)];simp [enc3,fp.2.1]
   have cq2:w.cell? ⟨g,o.length*3+2,none⟩=some (.int .i64 q.2.2):=by rw [hown'.cellAt (o.length*3+2) (by omega)];simp [enc3,fp.2.2]
   have HOM:Hid (out.length=o.length+1):=hom
   rw [e9,hom]
   rw [hom] at hlen
   have HOW:Hid (w.ownsRow base 54 3 (.slice (some ⟨g,0,none⟩) (o.length+1) vc') (o.length+1) (enc3 out)):=hown'
   have hfz:=fun W (h:Below w.heap.size w W)=>(ownsRow_below hown' h).frozenAt (o.length*3+1)
   have HFZ:Hid (∀W,Below w.heap.size w W -> W.frozen? ⟨g,o.length*3+1,none⟩=false):=hfz
   clear e9 h0 hgp fp hh h4 h5 hom hown hown' hve hfz h1 h2
   generalize hm:o.length=m at*
   have HM:Hid (o.length=m):=hm
   clear hm
   have hm1:(0:Int) <= (m:Int):=by omega
   have hm2:(m:Int)<(m:Int)+1:=by omega
   have HK:Hid (∀w1,Below (w.alloc (.cells #[.int .i64 p.1,.int .i64 p.2.1,.int .i64 p.2.2] 54)).heap.size (w.alloc (.cells #[.int .i64 p.1,.int .i64 p.2.1,.int .i64 p.2.2] 54)) w1 -> Kp w w w1 g (m*3) p q):=fun w1 h=>kp_start (Below.refl _ _) hgl.2 cq0 cq1 cq2 h
   have HFol:Hid (∀W,Calls Seq.prog 69 #[.agg #[.int .i64 q.1,.int .i64 q.2.1,.int .i64 q.2.2],.agg #[.int .i64 p.1,.int .i64 p.2.1,.int .i64 p.2.2]] W fun e w' =>e= .returned (.bool (folB q p)) /\ Below W.heap.size W w'):=fun W=>follows_any q.1 q.2.1 q.2.2 p.1 p.2.1 p.2.2 W
   cases hf:folB q p with
   | true=>
     have HE:Hid (ext out p=out++[p]):=by show _=_;rw [HO.out,ext_yes hf]
     rw [hf] at HFol
     clear hf
     go_enter Seq.func71,Tryz.ntmps71
     go_wp2_with fail
     generalize w.alloc (.cells #[.int .i64 p.1,.int .i64 p.2.1,.int .i64 p.2.2] 54)=W0 at HK ⊢
     have f0:∀s:HeldIn W0,s.w.cell? ⟨w.heap.size,0,none⟩=some (.int .i64 p.1):=fun s=>(HK.out _ s.h).k0
     have f1:∀s:HeldIn W0,s.w.cell? ⟨w.heap.size,1,none⟩=some (.int .i64 p.2.1):=fun s=>(HK.out _ s.h).k1
     have f2:∀s:HeldIn W0,s.w.cell? ⟨w.heap.size,2,none⟩=some (.int .i64 p.2.2):=fun s=>(HK.out _ s.h).k2
     have q0:∀s:HeldIn W0,s.w.cell? ⟨g,m*3,none⟩=some (.int .i64 q.1):=fun s=>(HK.out _ s.h).q0
     have q1:∀s:HeldIn W0,s.w.cell? ⟨g,m*3+1,none⟩=some (.int .i64 q.2.1):=fun s=>(HK.out _ s.h).q1
     have q2:∀s:HeldIn W0,s.w.cell? ⟨g,m*3+2,none⟩=some (.int .i64 q.2.2):=fun s=>(HK.out _ s.h).q2
     have hne:Nonempty (HeldIn W0):=⟨⟨W0,Below.refl _ _⟩⟩
     refine wp_region_held W0 (Below.refl _ _) (by kernel_rfl) (by kernel_rfl) ?_
     repeat (go_big_quiet_step ((go_at_call 69;exact held_of (HFol.out _))))
     refine wpQuiet_nil ?_
     rintro _ ⟨s,rfl⟩
     have KK:=HK.out _ s.h
     have hbs:=KK.bel
     have k0:=KK.k0
     have k1:=KK.k1
     have k2:=KK.k2
     generalize s.w=w1 at hbs k0 k1 k2 ⊢
     have hows:=ownsRow_below HOW.out hbs
     have hsz:=hbs.size
     clear f0 f1 f2 q0 q1 q2 KK hne cq0 cq1 cq2 HK HFol HFZ
     go_wp2_with (at_builtin;refine wpList_append_own _ rfl _ _ 41 rfl base 54 i0 (.agg #[.int .i64 0,.int .i64 0,.int .i64 0]) 3 24 ((Seq.pu 41).trans Tryz.underlying41) hi hz0 hz1 hz2 rfl (by decide) _ _ _ rfl (World.ownsRow.alloc (w:=w1) hows _) ⟨w1.heap.size,0,none⟩ 1 1 [.int .i64 p.1,.int .i64 p.2.1,.int .i64 p.2.2] rfl rfl ?c1 ?c2 ?c3 ?c4 ?c5 ?_)
     case c1=>exact cells_three_new _ _ _ _ _ _ (by simp)
     case c2=>intro u hu;simp at hu;rcases hu with rfl | rfl | rfl<;>rfl
     case c3=>unfold maxLen;omega
     case c4=>omega
     case c5=>simp;omega
     intro v' w2 hown2 hgrow _
     have R:w2.ownsRow base 54 3 v' (ext out p).length (enc3 (ext out p)):=by
       rw [HE.out,enc3_append,List.length_append,HOM.out];exact hown2
     have hb' :Below base w w2:=((hbs.mono hbase).alloc (by omega) _).grown hgrow (by simp;omega) (fun j hj=>(hows.lt j hj).1)
     clear hows hown2 hgrow
     go_wp2
     go_ret
     exact ⟨_,rfl,R,hb'⟩
   | false=>
     have HE:Hid (ext out p=o++[(q.1,p.2.1,q.2.2)]):=by show _=_;rw [HO.out,ext_no hf]
     rw [hf] at HFol
     clear hf
     go_enter Seq.func71,Tryz.ntmps71
     go_wp2_with fail
     generalize w.alloc (.cells #[.int .i64 p.1,.int .i64 p.2.1,.int .i64 p.2.2] 54)=W0 at HK ⊢
     have f0:∀s:HeldIn W0,s.w.cell? ⟨w.heap.size,0,none⟩=some (.int .i64 p.1):=fun s=>(HK.out _ s.h).k0
     have f1:∀s:HeldIn W0,s.w.cell? ⟨w.heap.size,1,none⟩=some (.int .i64 p.2.1):=fun s=>(HK.out _ s.h).k1
     have f2:∀s:HeldIn W0,s.w.cell? ⟨w.heap.size,2,none⟩=some (.int .i64 p.2.2):=fun s=>(HK.out _ s.h).k2
     have q0:∀s:HeldIn W0,s.w.cell? ⟨g,m*3,none⟩=some (.int .i64 q.1):=fun s=>(HK.out _ s.h).q0
     have q1:∀s:HeldIn W0,s.w.cell? ⟨g,m*3+1,none⟩=some (.int .i64 q.2.1):=fun s=>(HK.out _ s.h).q1
     have q2:∀s:HeldIn W0,s.w.cell? ⟨g,m*3+2,none⟩=some (.int .i64 q.2.2):=fun s=>(HK.out _ s.h).q2
     have hne:Nonempty (HeldIn W0):=⟨⟨W0,Below.refl _ _⟩⟩
     refine wp_region_held W0 (Below.refl _ _) (by kernel_rfl) (by kernel_rfl) ?_
     repeat (go_big_quiet_step ((go_at_call 69;exact held_of (HFol.out _))))
     refine wpQuiet_nil ?_
     rintro _ ⟨s,rfl⟩
     have KK:=HK.out _ s.h
     have hbs:=KK.bel
     have k1:=KK.k1
     have c1:=KK.q1
     generalize s.w=w1 at hbs k1 c1 ⊢
     have hows:=ownsRow_below HOW.out hbs
     have fz:=HFZ.out w1 hbs
     have hsz:=hbs.size
     have HR:Hid ((w1.setCell ⟨g,m*3+1,none⟩ (.int .i64 p.2.1)).ownsRow base 54 3 (.slice (some ⟨g,0,none⟩) (m+1) vc') (ext out p).length (enc3 (ext out p)) /\ Below base w (w1.setCell ⟨g,m*3+1,none⟩ (.int .i64 p.2.1))):=by
       have hst:=(hows.stored (m*3+1) (.int .i64 p.2.1)).1
       have he:(enc3 out).set (m*3+1) (.int .i64 p.2.1)=enc3 (o++[(q.1,p.2.1,q.2.2)]):=by
         rw [HO.out,enc3_append,enc3_append,List.set_append_right _ _ (by rw [enc3_length,HM.out];omega),enc3_length,HM.out,show m*3+1-m*3=1 by omega]
         rfl
       rw [he] at hst
       have hlen' :(o++[(q.1,p.2.1,q.2.2)]).length=m+1:=by simp [HM.out]
       rw [HE.out,hlen']
       exact ⟨hst,(hbs.mono hbase).setCell hgl.1 _⟩
     clear f0 f1 f2 q0 q1 q2 KK hne cq0 cq1 cq2 HK HFol hows
     go_wp2
     go_ret
     exact ⟨_,rfl,HR.out.1,HR.out.2⟩
def FitIs (out:List (Int×Int×Int)) (n:Int) (r:List (Int×Int×Int)):Prop:=
 (¬(∀q∈out,NearP q) /\ n=5 /\ r=[]) \/ ((∀q∈out,NearP q) /\ 200<out.length /\ n=2 /\ r=[]) \/ ((∀q∈out,NearP q) /\ out.length <= 200 /\ n=0 /\ r=out)
theorem near_take_succ {m:List (Int×Int×Int)} {k:Nat} (hk:k<m.length) (h:∀q∈m.take k,NearP q) (h1:NearP m[k]):∀q∈m.take (k+1),NearP q:=by
 intro q hq
 rw [take_succ_get m k hk,List.mem_append,List.mem_singleton] at hq
 rcases hq with hq | rfl
 · exact h q hq
 · exact h1
set_option maxRecDepth 100000 in
set_option maxHeartbeats 2000000 in
theorem fit_any (base:Nat) (v:Value) (out:List (Int×Int×Int)) (w:World) (hown:w.ownsRow base 54 3 v out.length (enc3 out)) (hlen:out.length <= 1000):
   Calls Seq.prog 72 #[v] w fun e w' =>∃n r v',FitIs out n r /\ e= .returned (.tuple #[v',.int .i64 n]) /\ w'.ownsRow base 54 3 v' r.length (enc3 r) /\ Below w.heap.size w w':=by
 obtain ⟨vo,vc,hve,hl⟩:=pcAt_of_owns hown
 subst hve
 have HOW:Hid (w.ownsRow base 54 3 (.slice vo out.length vc) out.length (enc3 out)):=hown
 have HNil:Hid (∀W:World,W.ownsRow base 54 3 (.slice none 0 0) ([]:List (Int×Int×Int)).length (enc3 [])):=fun W=>World.ownsRow_nil _ _ _ _
 clear hown
 go_enter Seq.func72,Tryz.ntmps72
 go_wp2
 go_loopw [8] (fun i wr=>∃k:Nat,k <= out.length /\ i= .int .i64 k /\ (∀q∈out.take k,NearP q) /\ Below w.heap.size w wr) (fun i _=>out.length-(intOf i).toNat)
 case atStart=>exact ⟨0,Nat.zero_le _,rfl,fun q hq=>by simp at hq,Below.refl _ _⟩
 case round=>
   obtain ⟨k,hk,rfl,hn,hb⟩:=hrel
   have HN:Hid (∀q∈out.take k,NearP q):=hn
   clear hn
   by_cases hlt:k<out.length
   · rcases hl.below hb with h0 | ⟨b,off,rfl,hbw,hc⟩
     · subst h0;simp at hlt
     obtain ⟨c0,c1,c2⟩:=PcAt.get hlt hc
     have hnr:=fun W=>pnear_any out[k].1 out[k].2.1 out[k].2.2 W
     have HB:Hid (∀o w1,Below (wr.alloc o).heap.size (wr.alloc o) w1 -> Below w.heap.size w w1):=fun o w1 h=>ptw (ptw hb (pal _ _)) h
     clear hc hl hb
     by_cases n1:NearP out[k]
     · have HS:Hid (∀q∈out.take (k+1),NearP q):=near_take_succ hlt HN.out n1
       rw [(nr3_iff _).2 n1] at hnr
       clear n1
       go_wp2_with fail
       refine (hnr _).mono ?_
       rintro e w1 ⟨rfl,hb1⟩
       have hb':=HB.out _ _ hb1
       clear hb1
       go_wp2
       go_roundw
       case rel=>exact ⟨k+1,by omega,by go_num,HS.out,hb'⟩
       case measure=>simp [intOf];omega
     · have HC:Hid (FitIs out 5 []):= .inl ⟨fun h=>n1 (h _ (List.getElem_mem hlt)),rfl,rfl⟩
       rw [show nr3 out[k].1 out[k].2.1 out[k].2.2=false from by rw [<- Bool.not_eq_true,nr3_iff];exact n1] at hnr
       clear n1
       go_wp2_with fail
       refine (hnr _).mono ?_
       rintro e w1 ⟨rfl,hb1⟩
       have hb':=HB.out _ _ hb1
       clear hb1
       go_wp2
       go_ret2
       exact ⟨_,_,_,HC.out,rfl,HNil.out _,hb'⟩
   · have hkl:k=out.length:=by omega
     have hall:∀q∈out,NearP q:=by have:=HN.out;rwa [hkl,List.take_length] at this
     have HA:Hid (∀q∈out,NearP q):=hall
     clear hall
     subst hkl
     by_cases h200:200<out.length
     · have HC:Hid (FitIs out 2 []):= .inr (.inl ⟨HA.out,h200,rfl,rfl⟩)
       go_wp2
       go_ret2
       exact ⟨_,_,_,HC.out,rfl,HNil.out _,hb⟩
     · have HC:Hid (FitIs out 0 out):= .inr (.inr ⟨HA.out,by omega,rfl,rfl⟩)
       have HR:Hid (wr.ownsRow base 54 3 (.slice vo out.length vc) out.length (enc3 out)):=ownsRow_below HOW.out hb
       go_wp2
       go_ret2
       exact ⟨_,_,_,HC.out,rfl,HR.out,hb⟩
theorem sortInts_any {w:World} {base e g cap:Nat} {A:List Int} (h:w.ownsRow base e 1 (.slice (some ⟨g,0,none⟩) A.length cap) A.length (A.map (Value.int .i64))) (hlen:A.length<4611686018427387904):
   Calls Seq.prog 88 #[.slice (some ⟨g,0,none⟩) A.length cap] w fun en w' =>en= .returned (.tuple #[]) /\ ∃Z:List Int,Z.Perm A /\ Z.Pairwise (· <= ·) /\ w'.ownsRow base e 1 (.slice (some ⟨g,0,none⟩) A.length cap) A.length (Z.map (Value.int .i64)) /\ w.grownBy w' (some g):=by
 have hg:=h.lt g rfl
 rcases h.2 with ⟨h0,_⟩ | ⟨g',cap',cur,hv,hbase,hh,h1,h2,h3,h4⟩
 · cases h0
 simp only [Value.slice.injEq,Option.some.injEq,Addr.mk.injEq,and_true,true_and] at hv
 obtain ⟨rfl,rfl⟩:=hv
 have hcon:=Any.slices_Sort_int Seq.sortInt g 0 cap A w (holds_of_blockI hh (by rw [Nat.mul_one] at h4;exact h4)) hg.2 hlen
 change Calls Seq.prog 88 _ _ _ at hcon
 refine hcon.mono ?_
 rintro en w' ⟨rfl,n,os,rfl⟩
 refine ⟨rfl,A.mergeSort fun x y=>decide (x <= y),List.mergeSort_perm _ _,?_,ownsRow_sortedI (by simp) hbase hh h1 h2 h3,grownBy_sortedI _⟩
 have:=List.pairwise_mergeSort (le:=fun x y:Int=>decide (x <= y)) (fun a b c h1 h2=>by simp only [decide_eq_true_eq] at *; omega) (fun a b=>by simp only [Bool.or_eq_true,decide_eq_true_eq];omega) A
 exact this.imp (fun h=>by simpa using h)
theorem toArray_get {Z:List Int} {m:Nat} (hm:m<Z.length):Z.toArray[m]! =Z[m]:=by simp [hm]
theorem compact_inv {Z:List Int} (hZ:Z.Pairwise (· <= ·)) (m:Nat) (hm:m <= Z.length):
   (Lib.compactUpTo Z.toArray m).Pairwise (·<·) /\ (∀x,x∈Lib.compactUpTo Z.toArray m↔x∈Z.take m) /\ (Lib.compactUpTo Z.toArray m).length <= m:=by
 induction m with
 | zero=>exact ⟨List.Pairwise.nil,fun x=>by simp [Lib.compactUpTo],Nat.le_refl _⟩
 | succ m ih=>
   obtain ⟨h1,h2,h3⟩:=ih (by omega)
   have hlt:m<Z.length:=by omega
   rw [Lib.compactUpTo_succ,toArray_get hlt]
   have hZ':=hZ
   rw [List.pairwise_iff_getElem] at hZ'
   by_cases hk:Lib.keeps Z.toArray m=true
   · rw [if_pos hk]
     refine ⟨?_,fun x=> ?_,by simp only [List.length_append,List.length_singleton];omega⟩
     · rw [List.pairwise_append]
       refine ⟨h1,List.pairwise_singleton _ _,fun a ha b hb=> ?_⟩
       simp only [List.mem_singleton] at hb
       subst hb
       obtain ⟨j,hj,e⟩:=mem_take_lt ((h2 a).1 ha)
       obtain ⟨hjl,e⟩:=List.getElem?_eq_some_iff.1 e
       subst e
       have hne:Z[m]≠Z[m- 1]:=by
         unfold Lib.keeps at hk
         simp only [decide_eq_true_eq] at hk
         rcases hk with hk | hk
         · omega
         · rwa [toArray_get hlt,toArray_get (by omega:m- 1<Z.length)] at hk
       have h4:=hZ' (m- 1) m (by omega) hlt (by omega)
       have h5:Z[j] <= Z[m- 1]:=by
         by_cases e:j=m- 1
         · subst e;exact Int.le_refl _
         · exact hZ' j (m- 1) hjl (by omega) (by omega)
       omega
     · rw [take_succ_get Z m hlt,List.mem_append,List.mem_append,h2 x]
   · rw [if_neg hk,List.append_nil]
     refine ⟨h1,fun x=> ?_,by omega⟩
     have h0:0<m:=by
       rcases Nat.eq_zero_or_pos m with e | e
       · subst e;exact absurd (Lib.keeps_lt_one _ 0 (by omega)) hk
       · exact e
     have he:Z[m]=Z[m- 1]:=by
       rcases Decidable.em (Z[m]=Z[m- 1]) with e | e
       · exact e
       · exact absurd (Lib.keeps_pos (by rw [toArray_get hlt,toArray_get (by omega:m- 1<Z.length)];exact e)) hk
     rw [take_succ_get Z m hlt,List.mem_append,h2 x]
     constructor
     · exact .inl
     · rintro (h | h)
       · exact h
       · simp only [List.mem_singleton] at h
         rw [h,he]
         have:(Z.take m)[m- 1]? =some Z[m- 1]:=by rw [List.getElem?_take_of_lt (by omega),List.getElem?_eq_getElem (by omega)]
         exact List.mem_of_getElem? this
theorem compact_len (Z:List Int):(Lib.compact Z).length <= Z.length:=by
 unfold Lib.compact Lib.compactUpTo
 rw [List.length_map]
 exact Nat.le_trans (List.length_filter_le _ _) (by simp)
theorem compact_ordered {A Z:List Int} (hp:Z.Perm A) (hZ:Z.Pairwise (· <= ·)):Ordered A (Lib.compact Z):=by
 obtain ⟨h1,h2,h3⟩:=compact_inv hZ Z.length (Nat.le_refl _)
 exact ⟨h1,fun x=>by rw [show Lib.compact Z=Lib.compactUpTo Z.toArray Z.length from rfl,h2 x,List.take_length];exact hp.mem_iff,by have:=hp.length_eq;unfold Lib.compact;omega⟩
theorem compact_any {w:World} {base e g cap n:Nat} {Z:List Int} (hn:Z.length=n) (h:w.ownsRow base e 1 (.slice (some ⟨g,0,none⟩) n cap) n (Z.map (Value.int .i64))) (hlen:n<4611686018427387904):
   Calls Seq.prog 89 #[.slice (some ⟨g,0,none⟩) n cap] w fun en w' =>en= .returned (.slice (some ⟨g,0,none⟩) (Lib.compact Z).length cap) /\ ZsAt w' (some ⟨g,0,none⟩) (Lib.compact Z) /\ w.grownBy w' (some g):=by
 subst hn
 rcases h.2 with ⟨h0,_⟩ | ⟨g',cap',cur,hv,hbase,hh,h1,h2,h3,h4⟩
 · cases h0
 simp only [Value.slice.injEq,Option.some.injEq,Addr.mk.injEq,and_true,true_and] at hv
 obtain ⟨rfl,rfl⟩:=hv
 have hcon:=Any.slices_Compact_int Seq.compInt g 0 cap Z w (holds_of_blockI hh (by rw [Nat.mul_one] at h4;exact h4)) (by omega) h1
 change Calls Seq.prog 89 _ _ _ at hcon
 refine hcon.mono ?_
 rintro en w' ⟨rfl,q,rfl⟩
 have hle:(Lib.compact Z).length <= Z.length:=compact_len Z
 have ho:=ownsRow_sortedI (n:=q) (os:=#[]) (ss:=Z) (ts:=Lib.compact Z++List.replicate (Z.length-(Lib.compact Z).length) 0) (by simp;omega) hbase hh h1 h2 h3
 have hgr:=grownBy_sortedI (w:=w) (g:=g) (n:=q) (os:=#[]) (Lib.compact Z++List.replicate (Z.length-(Lib.compact Z).length) 0).toArray
 rw [Sort.grow_empty] at ho hgr
 refine ⟨rfl,?_,hgr⟩
 by_cases h0:Lib.compact Z=[]
 · exact .inl h0
 refine .inr ⟨g,0,rfl,(ho.lt g rfl).2,fun j hj=> ?_⟩
 rw [Nat.zero_add,ho.cellAt j (by omega),List.getElem?_map,List.getElem?_append_left hj,List.getElem?_eq_getElem hj,List.getD_eq_getElem?_getD,List.getElem?_eq_getElem hj]
 rfl
theorem compact_nil (w:World):Calls Seq.prog 89 #[.slice none 0 0] w fun en w' =>en= .returned (.slice none 0 0) /\ w' =w:=by
 go_enter Seq.func89,Tryz.ntmps89
 go_wp2
 go_ret
 exact ⟨rfl,rfl⟩
theorem sort_nil (w:World):Calls Seq.prog 88 #[.slice none 0 0] w fun en w' =>en= .returned (.tuple #[]) /\ w' =w:=by
 have hcon:=Any.slices_Sort_int_none Seq.sortInt none 0 w
 change Calls Seq.prog 88 _ _ _ at hcon
 exact hcon
theorem hideS {p:Prop} (h:p):Hid p:=h
set_option maxRecDepth 100000 in
set_option maxHeartbeats 4000000 in
theorem clone1_any (ao:Option Addr) (cap:Nat) (A:List Int) (w:World) (hz:ZsAt w ao A) (h8:A.length <= 800):
   Calls Seq.prog 87 #[.slice ao A.length cap] w fun e w' =>∃v',e= .returned v' /\ w'.ownsRow w.heap.size 3 1 v' A.length (A.map (Value.int .i64)) /\ Below w.heap.size w w':=by
 obtain ⟨i0,hi,hz0,hz1,hz2⟩:=info_parts Tryz.infoInt
 have q22:∀(w:World) (a:Option Addr) (n c n' c' :Nat),(binOp .eql 37 (.slice a n c) (.slice none n' c')).run Seq.prog w= .ok (.bool a.isNone) w:=fun w a n c n' c' =>Lib.run_eql_slice_nil w _ _ a n c n' c' ((Seq.pu 37).trans Tryz.underlying37)
 cases ao with
 | none=>
   have h0:A=[]:=by
     rcases hz with h | ⟨b,off,e,_⟩
     · exact h
     · cases e
   subst h0
   clear hz
   go_enter Seq.func87,Tryz.ntmps87
   go_wp2
   go_ret
   exact ⟨_,rfl,World.ownsRow_nil _ _ _ _,Below.refl _ _⟩
 | some a=>
   have hc:∀o,∀j u,(A.map (Value.int .i64))[j]? =some u -> (w.alloc o).cell? (a.add j)=some u:=by
     intro o j u hu
     have hj:j<A.length:=by have:=(List.getElem?_eq_some_iff.1 hu).1;simpa using this
     rcases hz.below (pal w o) with h | ⟨b,off,e,_,hc⟩
     · rw [h] at hj;simp at hj
     · simp only [Option.some.injEq] at e
       subst e
       rw [Go.WideShapes.add_plain,hc j hj]
       rw [List.getElem?_map,List.getElem?_eq_getElem hj] at hu
       simp only [Option.map_some,Option.some.injEq] at hu
       rw [<- hu,List.getD_eq_getElem?_getD,List.getElem?_eq_getElem hj]
       rfl
   have HC:=hideS hc
   have HONE:Hid (∀u∈A.map (Value.int .i64),u.oneCell' =true):=by intro u hu;rw [List.mem_map] at hu;obtain ⟨z,_,rfl⟩:=hu;rfl
   have HEL:Hid ((A.map (Value.int .i64)).length=A.length*1):=by show _=_;simp
   clear hc hz
   go_enter Seq.func87,Tryz.ntmps87
   go_wp2_with (at_builtin;refine wpList_append_own _ rfl _ _ 37 rfl w.heap.size 3 i0 (.int .i64 0) 1 8 ((Seq.pu 37).trans Tryz.underlying37) hi hz0 hz1 hz2 rfl (by decide) _ _ _ rfl (World.ownsRow_made w #[] 0 (Nat.le_refl _) (Nat.zero_le _) rfl) a A.length cap (A.map (Value.int .i64)) rfl HEL.out (HC.out _) HONE.out (by unfold maxLen;omega) (by omega) (by simp) ?_;intro v' w1 hown hgrow hnil)
   have hb:Below w.heap.size w w1:=((Below.refl _ w).alloc (Nat.le_refl _) _).grown hgrow (by simp) (fun k hk=>by cases hk;exact Nat.le_refl _)
   have R:w1.ownsRow w.heap.size 3 1 v' A.length (A.map (Value.int .i64)):=by simpa using hown
   clear hown hgrow hnil
   go_wp2
   go_ret
   exact ⟨v',rfl,R,hb⟩
def spn (S:List Int) (j:Nat):List (Int×Int):=(List.range j).map fun i=>(S.getD i 0,S.getD (i+1) 0)
theorem spn_length (S:List Int) (j:Nat):(spn S j).length=j:=by simp [spn]
theorem spn_get (S:List Int) (j k:Nat) (h:k<j) (hS:k+1<S.length):(spn S j).getD k (0,0)=(S[k],S[k+1]):=by
 simp [spn,List.getD_eq_getElem?_getD,h,hS,show k<S.length by omega]
theorem encs_spn (S:List Int) (j:Nat) (h:j+1<S.length):encs (spn S (j+1))=encs (spn S j)++[.int .i64 S[j],.int .i64 S[j+1]]:=by
 unfold spn
 rw [List.range_succ,List.map_append]
 unfold encs flat
 rw [List.flatMap_append,List.map_append]
 simp [List.getD_eq_getElem?_getD,h,show j<S.length by omega]
set_option maxRecDepth 100000 in
set_option maxHeartbeats 4000000 in
theorem spans_any (ao:Option Addr) (ca:Nat) (A:List Int) (w:World) (hz:ZsAt w ao A) (h8:A.length <= 800):
   Calls Seq.prog 70 #[.slice ao A.length ca] w fun e w' =>∃S v,e= .returned v /\ Ordered A S /\ w'.ownsRow w.heap.size 95 2 v (S.length- 1) (encs (spn S (S.length- 1))) /\ Below w.heap.size w w':=by
 obtain ⟨i0,hi,hz0,hz1,hz2⟩:=info_parts Tryz.infoIvl
 have hcl:=clone1_any ao ca A w hz h8
 clear hz
 go_enter Seq.func70,Tryz.ntmps70
 go_wp2_with fail
 refine hcl.mono ?_
 rintro e w0 ⟨v0,rfl,hown0,hb0⟩
 clear hcl
 have hcase:=hown0.2
 rcases hcase with ⟨rfl,h0⟩ | ⟨g,cap,cur,rfl,_⟩
 · have hA:A=[]:=List.eq_nil_of_length_eq_zero h0
   have hs:=fun W=>sort_nil W
   have hk:=fun W=>compact_nil W
   have HO:Hid (Ordered A []):=by rw [hA];exact ⟨List.Pairwise.nil,fun x=>Iff.rfl,Nat.le_refl _⟩
   clear hown0 h0 hA
   go_wp2_with (first | (go_at_call 88;refine (hs _).mono ?_;rintro e w' ⟨rfl,rfl⟩) | (go_at_call 89;refine (hk _).mono ?_;rintro e w' ⟨rfl,rfl⟩))
   refine wp_loop_rounds 1 ?_
   rw [rounds_succ]
   go_wp2
   go_ret
   exact ⟨[],_,rfl,HO.out,World.ownsRow_nil _ _ _ _,by assumption⟩
 · have hgW:=(hown0.lt g rfl).1
   have hsort:=sortInts_any hown0 (by omega)
   clear hown0
   go_wp2_with fail
   refine hsort.mono ?_
   rintro e w1 ⟨rfl,Z,hpZ,hZ,hown1,hg1⟩
   have hb1:Below w.heap.size w w1:=hb0.grown hg1 hb0.size (fun k hk=>by cases hk;exact hgW)
   have hcomp:=compact_any hpZ.length_eq hown1 (by omega)
   have HO:Hid (Ordered A (Lib.compact Z)):=compact_ordered hpZ hZ
   clear hpZ hZ hown1 hg1 hsort hb0
   generalize Lib.compact Z=S at HO hcomp
   have hSl:S.length <= 800:=Nat.le_trans HO.out.len h8
   go_wp2_with fail
   refine hcomp.mono ?_
   rintro e w2 ⟨rfl,hz2',hg2⟩
   have hb2:Below w.heap.size w w2:=hb1.grown hg2 hb1.size (fun k hk=>by cases hk;exact hgW)
   clear hg2 hb1 hcomp
   go_wp2_with fail
   go_loopw [4,5] (fun v vi wr=>∃(j:Nat),vi= .int .i64 ((j:Int)+1) /\ (j=0 \/ j+1 <= S.length) /\ wr.ownsRow w2.heap.size 95 2 v j (encs (spn S j)) /\ Below w2.heap.size w2 wr) (fun _ vi _=>S.length+1-(intOf vi).toNat)
   case atStart=>exact ⟨0,rfl,.inl rfl,World.ownsRow_nil _ _ _ _,Below.refl _ _⟩
   case round=>
     obtain ⟨j,rfl,hil,hown,hb⟩:=hrel
     have hj8:j <= 800:=by omega
     have hsz:=hb.size
     by_cases hlt:j+1<S.length
     · rcases hz2' with h0 | ⟨b,off,e0,hbw,hc⟩
       · subst h0;simp at hlt
       simp only [Option.some.injEq,Addr.mk.injEq,and_true] at e0
       obtain ⟨rfl,rfl⟩:=e0
       have c0:wr.cell? ⟨g,j,none⟩=some (.int .i64 S[j]):=by
         have:=hc j (by omega)
         rw [Nat.zero_add] at this
         rw [hb.cell (p:=⟨g,j,none⟩) hbw,this,List.getD_eq_getElem?_getD,List.getElem?_eq_getElem (by omega)];rfl
       have c1:wr.cell? ⟨g,j+1,none⟩=some (.int .i64 S[j+1]):=by
         have:=hc (j+1) (by omega)
         rw [Nat.zero_add] at this
         rw [hb.cell (p:=⟨g,j+1,none⟩) hbw,this,List.getD_eq_getElem?_getD,List.getElem?_eq_getElem (by omega)];rfl
       have HE:=hideS (encs_spn S j hlt)
       have hne:some g≠u4.ownBlock:=fun h=>by have:=(hown.lt g h.symm).1;omega
       have hbr:g<wr.heap.size:=by omega
       have hi1:(j:Int)+1<(S.length:Int):=by omega
       have hi2:(j:Int)<(S.length:Int):=by omega
       have hi3:(0:Int) <= (j:Int):=by omega
       have hi4:(0:Int) <= (j:Int)+1:=by omega
       have hw1:IntKind.i64.wrap ((j:Int)+1- 1)=(j:Int):=by rw [Int.add_sub_cancel];exact wrap_small _ (by omega) (by omega)
       have hw2:IntKind.i64.wrap (j:Int)=(j:Int):=wrap_small _ (by omega) (by omega)
       have HB:Hid (∀(o:Obj) (w1:World),((wr.alloc o).drew).grownBy w1 u4.ownBlock -> Below w2.heap.size w2 w1):=fun o w1 hgr=>((hb.alloc hsz o).drew).grown hgr (by simp;omega) (fun j hj=>(hown.lt j hj).1)
       clear hc
       go_wp2
       go_region_held3 (fun w' => w'.cell? ⟨g, j, none⟩ = some (.int .i64 S[j]) /\ w'.cell? ⟨g, j + 1, none⟩ = some (.int .i64 S[j + 1]))
         (first
           | go_keep
           | (go_split_ands
              refine ⟨?_,?_⟩
              · (rw [hgrow.cell_far _ (by simp;omega) hne];assumption)
              · (rw [hgrow.cell_far _ (by simp;omega) hne];assumption)))
         ((refine step_append_lies _ (by rfl) _ _ _ (by rfl) w2.heap.size 95 i0 _ 2 16 ((Seq.pu 22).trans Tryz.underlying22) hi hz0 hz1 hz2 rfl (by omega) u4 j (encs (spn S j)) (by rfl) ((hown.alloc _).drew) ⟨wr.heap.size,0,none⟩ 1 1 [.int .i64 S[j],.int .i64 S[j+1]] (by rfl) (by rfl) (World.news_of_block (cs:=#[.int .i64 S[j],.int .i64 S[j+1]]) (t:=95) (fr:=(0,0)) (heap_alloc_new wr _)) (by simp [Value.oneCell']) (by omega) (by unfold maxLen;omega) (by omega) (by simp;omega) (wr.heap.size+1) (by simp) ?_;intro gg cap1 w3 hown1 hgrow hat hltg))
       have hb':=HB.out _ _ hgrow
       rw [<- HE.out] at hown1
       clear hgrow hown hat hltg hne
       go_wp2
       go_roundw
       case rel=>exact ⟨j+1,by go_num,.inr (by omega),hown1,hb'⟩
       case measure=>simp [intOf];omega
     · have hil' :j=S.length- 1:=by omega
       have HR:Hid (wr.ownsRow w.heap.size 95 2 u4 (S.length- 1) (encs (spn S (S.length- 1)))):=by
         show World.ownsRow _ _ _ _ _ _ _
         rw [<- hil'];exact owns_base2 hown hb2.size
       have hbb:=ptw hb2 hb
       have hi1:¬((j:Int)+1<(S.length:Int)):=by omega
       clear hown hil' hz2'
       go_wp2
       go_ret
       exact ⟨S,_,rfl,HO.out,HR.out,hbb⟩
theorem tl_ext {S:List Int} {f:Int -> Option Int} {i:Nat} {y:Int} {out:List (Int×Int×Int)} (hi:i+1<S.length) (hS:S.Pairwise (·<·)) (T:Tl S f i out) (hp:f S[i]=some y):Tl S f (i+1) (ext out (S[i],S[i+1],y)):=by
 rcases List.eq_nil_or_concat out with h0 | ⟨o,q,h0⟩
 · subst h0
   exact tl_put hi hS T hp (fun q h=>by simp at h)
 · rw [List.concat_eq_append] at h0
   subst h0
   have hle:=tl_last_le hi hS T (q:=q) (by simp)
   cases hf:folB q (S[i],S[i+1],y) with
   | true=>
     rw [ext_yes hf]
     exact tl_put hi hS T hp (fun r h=>by simp at h;subst h;exact (folB_iff _ _).1 hf)
   | false=>
     rw [ext_no hf]
     have hn:¬Fol q (S[i],S[i+1],y):=by rw [<- folB_iff,hf];decide
     unfold Fol at hn
     simp only [not_or,not_and,Decidable.not_not] at hn
     have h1:q.2.1=S[i]:=by omega
     exact tl_more hi hS T hp h1 (hn.2 h1)
theorem ownsRow_base {w:World} {base base' e size:Nat} {v:Value} {n:Nat} {xs:List Value} (h:w.ownsRow base e size v n xs) (hb:base' <= base):w.ownsRow base' e size v n xs:=
 ⟨h.1,h.2.imp id (fun ⟨g,c,cur,h1,h2,h3⟩=>⟨g,c,cur,h1,Nat.le_trans hb h2,h3⟩)⟩
set_option maxRecDepth 100000 in
set_option maxHeartbeats 4000000 in
theorem build_in (g:Nat) (caps:Array Value) (f:Int -> Option Int) (eg:∀args w,(callFunc g args).run Seq.prog w= .ok (.enter g args) w) (W1 w:World) (hW:Below W1.heap.size W1 w) (A:List Int)
   (hp:∀t,t∈A -> (∃u∈A,t<u) -> ∀wq,Below W1.heap.size W1 wq -> Calls Seq.prog g (#[.int .i64 t]++caps) wq fun e w' =>(∃x,e= .returned (.tuple #[.int .i64 x,.bool (f t).isSome]) /\ ∀y,f t=some y -> x=y) /\ Below wq.heap.size wq w')
   (ao:Option Addr) (ca:Nat) (hz:ZsAt w ao A) (h8:A.length <= 800):
   Calls Seq.prog 42 #[.slice ao A.length ca,.func (.func g) #[] caps] w fun e w' =>∃n r v',MapIs A f n r /\ e= .returned (.tuple #[v',.int .i64 n]) /\ w'.ownsRow W1.heap.size 54 3 v' r.length (enc3 r) /\ Below W1.heap.size W1 w':=by
 have HP:Hid (∀t,t∈A -> (∃u∈A,t<u) -> ∀wq,Below W1.heap.size W1 wq -> Calls Seq.prog g (#[.int .i64 t]++caps) wq fun e w' =>(∃x,e= .returned (.tuple #[.int .i64 x,.bool (f t).isSome]) /\ ∀y,f t=some y -> x=y) /\ Below wq.heap.size wq w'):=hp
 have hsp:=spans_any ao ca A w hz h8
 clear hp hz
 go_enter Seq.func42,Tryz.ntmps42
 go_wp2_with fail
 refine hsp.mono ?_
 rintro e w2 ⟨S,v0,rfl,hO,hown0,hb0⟩
 have HO:Hid (Ordered A S):=hO
 have hSl:S.length <= 800:=Nat.le_trans hO.len h8
 have hb2:Below W1.heap.size W1 w2:=ptw hW hb0
 obtain ⟨N,hN⟩:∃N,N=S.length- 1:=⟨_,rfl⟩
 rw [<- hN] at hown0
 have HN:Hid (N=S.length- 1):=hN
 have hN8:N <= 800:=by omega
 have hown1:w2.ownsRow w.heap.size 95 2 v0 (spn S N).length (encs (spn S N)):=by rw [spn_length];exact hown0
 obtain ⟨so,sc,hv0,hivs⟩:=ivAt_of_owns hown1
 rw [spn_length] at hv0
 subst hv0
 have HIV:Hid (IvAt w2 so (spn S N)):=hivs
 clear hO hsp hW hb0 hown0 hown1 hivs hN
 go_wp2_with fail
 go_loopw [6,9,10,14] (fun v _ _ vi wr=>∃(j:Nat) (out:List (Int×Int×Int)),vi= .int .i64 j /\ j <= N /\ Tl S f j out /\ wr.ownsRow w2.heap.size 54 3 v out.length (enc3 out) /\ Below w2.heap.size w2 wr) (fun _ _ _ vi _=>N-(intOf vi).toNat)
 case atStart=>exact ⟨0,[],rfl,Nat.zero_le _,tl_start S f,World.ownsRow_nil _ _ _ _,Below.refl _ _⟩
 case round=>
   obtain ⟨j,out,rfl,hjN,hT,hown,hb⟩:=hrel
   have HT:Hid (Tl S f j out):=hT
   have hol:=hT.len
   clear hT
   have hbb:Below W1.heap.size W1 wr:=hb2.trans (hb.mono hb2.size)
   by_cases hlt:j<N
   · have hjS:j+1<S.length:=by have:=HN.out;omega
     rcases HIV.out.below hb with h0 | ⟨b,off,rfl,hbw,hc⟩
     · have:=spn_length S N;rw [h0] at this;simp at this;omega
     have hcj:=hc j (by rw [spn_length];exact hlt)
     rw [spn_get S N j hlt hjS] at hcj
     obtain ⟨c0,c1⟩:=hcj
     simp only at c0 c1
     have hsz:=hb.size
     have HB0:Hid (∀o,Below wr.heap.size wr (wr.alloc o)):=fun o=>pal wr o
     have hcl:=HP.out S[j] ((HO.out.mem _).1 (List.getElem_mem _)) ⟨S[j+1],(HO.out.mem _).1 (List.getElem_mem hjS),List.pairwise_iff_getElem.1 HO.out.inc j (j+1) (by omega) hjS (by omega)⟩ (wr.alloc (.cells #[.int .i64 S[j],.int .i64 S[j+1]] 95)) (ptw hbb (pal _ _))
     have HOW:Hid (∀W,Below wr.heap.size wr W -> W.ownsRow w2.heap.size 54 3 u6 out.length (enc3 out) /\ Below w2.heap.size w2 W):=fun W h=>⟨ownsRow_below hown h,hb.trans (h.mono hb.size)⟩
     clear hc hown hb HIV
     cases hfj:f S[j] with
     | none=>
       rw [hfj] at hcl
       simp only [Option.isSome_none] at hcl
       have HT' :Hid (Tl S f (j+1) out):=tl_skip hjS HT.out hfj
       clear hfj
       go_wp2_with (go_at_fn g;refine hcl.mono ?_;rintro e w3 ⟨⟨x,rfl,_⟩,hb3⟩)
       have F:=HOW.out w3 (ptw (HB0.out _) hb3)
       go_roundw
       case rel=>exact ⟨j+1,out,by go_num,by omega,HT'.out,F.1,F.2⟩
       case measure=>simp [intOf];omega
     | some y=>
       rw [hfj] at hcl
       simp only [Option.isSome_some] at hcl
       have HT' :Hid (Tl S f (j+1) (ext out (S[j],S[j+1],y))):=tl_ext hjS HO.out.inc HT.out hfj
       have HX:Hid (∀W,Below wr.heap.size wr W -> Calls Seq.prog 71 #[u6,.agg #[.int .i64 S[j],.int .i64 S[j+1],.int .i64 y]] W fun e w' =>∃v',e= .returned v' /\ w'.ownsRow w2.heap.size 54 3 v' (ext out (S[j],S[j+1],y)).length (enc3 (ext out (S[j],S[j+1],y))) /\ Below w2.heap.size w2 w'):=by
         intro W h
         obtain ⟨o1,o2⟩:=HOW.out W h
         refine (extend_any w2.heap.size u6 out (S[j],S[j+1],y) W o1 o2.size (by omega)).mono ?_
         rintro e w' ⟨v',rfl,a1,a2⟩
         exact ⟨v',rfl,a1,o2.trans a2⟩
       clear hfj
       go_wp2_with fail
       go_at_fn g
       refine hcl.mono ?_
       rintro e w3 ⟨⟨x,rfl,hx⟩,hb3⟩
       have hxy:=hx y rfl
       subst hxy
       have hb3':=ptw (HB0.out _) hb3
       have HX3:=HX.out w3 hb3'
       have d0:w3.cell? ⟨wr.heap.size,0,none⟩=some (.int .i64 S[j]):=by rw [hb3.cell (p:=⟨wr.heap.size,0,none⟩) (by simp)];simp
       have d1:w3.cell? ⟨wr.heap.size,1,none⟩=some (.int .i64 S[j+1]):=by rw [hb3.cell (p:=⟨wr.heap.size,1,none⟩) (by simp)];simp
       clear hx hcl hb3 HOW
       go_wp2_with (go_at_call 71;refine HX3.mono ?_;rintro e w4 ⟨v4,rfl,hown4,hb4⟩)
       go_roundw
       case rel=>exact ⟨j+1,_,by go_num,by omega,HT'.out,hown4,hb4⟩
       case measure=>simp [intOf];omega
   · have hjn:j=N:=by omega
     have hfit:=fit_any w2.heap.size u6 out wr hown (by omega)
     have HM:Hid (∀n r,FitIs out n r -> MapIs A f n r):=by
       intro n r h
       have:=HT.out
       rw [hjn,HN.out] at this
       exact ⟨S,out,HO.out,this,h⟩
     have hsz2:=hb2.size
     subst hjn
     clear hown HIV
     go_wp2_with fail
     refine hfit.mono ?_
     rintro e w5 ⟨n,r,v5,hF,rfl,hown5,hb5⟩
     have HF:=HM.out n r hF
     have HF' :Hid (MapIs A f n r):=HF
     have hbF:Below W1.heap.size W1 w5:=ptw hbb hb5
     have R:=ownsRow_base hown5 hsz2
     clear hF HF hown5 hfit
     go_wp2
     go_ret2
     exact ⟨n,r,v5,HF'.out,rfl,R,hbF⟩
theorem build_any (g:Nat) (caps:Array Value) (f:Int -> Option Int) (eg:∀args w,(callFunc g args).run Seq.prog w= .ok (.enter g args) w) (W1 w:World) (hW:Below W1.heap.size W1 w)
   (hp:∀t wq,Below W1.heap.size W1 wq -> Calls Seq.prog g (#[.int .i64 t]++caps) wq fun e w' =>(∃x,e= .returned (.tuple #[.int .i64 x,.bool (f t).isSome]) /\ ∀y,f t=some y -> x=y) /\ Below wq.heap.size wq w')
   (ao:Option Addr) (ca:Nat) (A:List Int) (hz:ZsAt w ao A) (h8:A.length <= 800):
   Calls Seq.prog 42 #[.slice ao A.length ca,.func (.func g) #[] caps] w fun e w' =>∃n r v',MapIs A f n r /\ e= .returned (.tuple #[v',.int .i64 n]) /\ w'.ownsRow W1.heap.size 54 3 v' r.length (enc3 r) /\ Below W1.heap.size W1 w':=
 build_in g caps f eg W1 w hW A (fun t _ _=>hp t) ao ca hz h8
theorem build_own (g:Nat) (caps:Array Value) (f:Int -> Option Int) (eg:∀args w,(callFunc g args).run Seq.prog w= .ok (.enter g args) w) (W1 w:World) (hW:Below W1.heap.size W1 w)
   (hp:∀t wq,Below W1.heap.size W1 wq -> Calls Seq.prog g (#[.int .i64 t]++caps) wq fun e w' =>(∃x,e= .returned (.tuple #[.int .i64 x,.bool (f t).isSome]) /\ ∀y,f t=some y -> x=y) /\ Below wq.heap.size wq w')
   (gb ca:Nat) (A:List Int) (hown:w.ownsRow W1.heap.size 3 1 (.slice (some ⟨gb,0,none⟩) A.length ca) A.length (A.map (Value.int .i64))) (h8:A.length <= 800):
   Calls Seq.prog 42 #[.slice (some ⟨gb,0,none⟩) A.length ca,.func (.func g) #[] caps] w fun e w' =>∃n r v',MapIs A f n r /\ e= .returned (.tuple #[v',.int .i64 n]) /\ w'.ownsRow W1.heap.size 54 3 v' r.length (enc3 r) /\ Below W1.heap.size W1 w':=by
 obtain ⟨ao,cap,he,hz⟩:=zsAt_of_owns hown
 simp only [Value.slice.injEq,true_and] at he
 obtain ⟨rfl,rfl⟩:=he
 exact build_any g caps f eg W1 w hW hp _ _ A hz h8
set_option maxHeartbeats 1000000 in
theorem pbounds_any (ao:Option Addr) (cap:Nat) (m:List (Int×Int×Int)) (w:World) (hl:PcAt w ao m) (h3:m.length <= 200):
   Calls Seq.prog 43 #[.slice ao m.length cap] w fun e w' =>∃g,e= .returned (.slice (some ⟨g,0,none⟩) (2*m.length) (2*m.length)) /\ w'.ownsRow w.heap.size 3 1 (.slice (some ⟨g,0,none⟩) (2*m.length) (2*m.length)) (2*m.length) ((turnsOf m).map (Value.int .i64)) /\ Below w.heap.size w w':=by
 obtain ⟨i0,hi,hz0,hz1,hz2⟩:=info_parts Tryz.infoInt
 go_enter Seq.func43,Tryz.ntmps43
 go_wp2_with (at_make;refine wpList_make_own _ rfl _ _ 37 rfl w.heap.size 3 i0 (.int .i64 0) 1 ((Seq.pu 37).trans Tryz.underlying37) hi hz0 hz1 .i64 .i64 _ (2*m.length) rfl rfl (by omega) (by rw [hz2];omega) (by unfold maxLen;omega) (Nat.le_refl _) ?_;intro w0 hown0 hgrow0)
 go_loopw [3,12] (fun v i wr=>∃k:Nat,k <= m.length /\ i= .int .i64 k /\ v= .slice (some ⟨w.heap.size,0,none⟩) (2*k) (2*m.length) /\ wr.ownsRow w.heap.size 3 1 (.slice (some ⟨w.heap.size,0,none⟩) (2*k) (2*m.length)) (2*k) ((turnsOf (m.take k)).map (Value.int .i64)) /\ Below w.heap.size w wr) (fun _ i _=>m.length-(intOf i).toNat)
 case atStart=>exact ⟨0,Nat.zero_le _,rfl,rfl,by assumption,(Below.refl _ _).grown (by assumption) (Nat.le_refl _) (fun k hk=>by cases hk)⟩
 case round=>
   obtain ⟨k,hk,rfl,rfl,hown,hb⟩:=hrel
   by_cases hlt:k<m.length
   · rcases hl.below hb with h0 | ⟨b,off,rfl,hbw,hc⟩
     · subst h0;simp at hlt
     obtain ⟨c0,c1,c2⟩:=PcAt.get hlt hc
     clear hc hl
     have hsz:=hb.size
     go_wp2_with (at_builtin;refine wpList_append_fits _ rfl _ _ 37 rfl w.heap.size 3 i0 1 ((Seq.pu 37).trans Tryz.underlying37) hi hz1 w.heap.size (2*k) (2*m.length) _ rfl ((hown.alloc _).alloc _) ⟨wr.heap.size+1,0,none⟩ 2 2 [.int .i64 m[k].1,.int .i64 m[k].2.1] rfl rfl ?c1 ?c2 ?c3 ?_)
     case c1=>exact cells_two_new _ _ _ _ _ (by simp)
     case c2=>intro u hu;simp at hu;rcases hu with rfl | rfl<;>rfl
     case c3=>omega
     intro w1 hown' hgrow
     have R:w1.ownsRow w.heap.size 3 1 (.slice (some ⟨w.heap.size,0,none⟩) (2*(k+1)) (2*m.length)) (2*(k+1)) ((turnsOf (m.take (k+1))).map (Value.int .i64)):=by
       rw [turnsOf_succ m k hlt,List.map_append];exact hown'
     have hb' :Below w.heap.size w w1:=((hb.alloc hsz _).alloc (by simp;omega) _).grown hgrow (by simp;omega) (fun j hj=>(hown.lt j hj).1)
     clear hown hown' hgrow
     go_wp2
     go_roundw
     case rel=>exact ⟨k+1,by omega,by go_num,rfl,R,hb'⟩
     case measure=>simp [intOf];omega
   · have hkl:k=m.length:=by omega
     subst hkl
     rw [List.take_length] at hown
     go_wp2
     go_ret
     exact ⟨_,rfl,hown,hb⟩
set_option maxRecDepth 100000 in
set_option maxHeartbeats 4000000 in
theorem PCheck_any (ao:Option Addr) (cap:Nat) (m:List (Int×Int×Int)) (w:World) (hl:PcAt w ao m):
   Calls Seq.prog 40 #[.slice ao m.length cap] w fun e w' =>e= .returned (.int .i64 (mchk m)) /\ Below w.heap.size w w':=by
 by_cases h2:200<m.length
 · have HC:Hid (mchk m=2):=mchk_large h2
   go_enter Seq.func40,Tryz.ntmps40
   go_wp2
   go_ret
   exact ⟨ret_int HC.out.symm,Below.refl _ _⟩
 · have h3:m.length <= 200:=by omega
   go_enter Seq.func40,Tryz.ntmps40
   go_wp2
   go_loopw [3,10] (fun _ i wr=>∃k:Nat,k <= m.length /\ i= .int .i64 k /\ MGood m k /\ Below w.heap.size w wr) (fun _ i _=>m.length-(intOf i).toNat)
   case atStart=>exact ⟨0,Nat.zero_le _,rfl,fun i hi=>absurd hi (Nat.not_lt_zero _),Below.refl _ _⟩
   case round=>
     obtain ⟨k,hk,rfl,hn,hb⟩:=hrel
     have HN:Hid (MGood m k):=hn
     clear hn
     by_cases hlt:k<m.length
     · rcases hl.below hb with h0 | ⟨b,off,rfl,hbw,hc⟩
       · subst h0;simp at hlt
       obtain ⟨c0,c1,c2⟩:=PcAt.get hlt hc
       have HG:Hid (m.getD k (0,0,0)=m[k]):=getD3 hlt
       have HNear:Hid (∀W,Calls Seq.prog 68 #[.agg #[.int .i64 m[k].1,.int .i64 m[k].2.1,.int .i64 m[k].2.2]] W fun e w' =>e= .returned (.bool (nr3 m[k].1 m[k].2.1 m[k].2.2)) /\ Below W.heap.size W w'):=fun W=>pnear_any m[k].1 m[k].2.1 m[k].2.2 W
       have HK:Hid (∀w1,Below (wr.alloc (.cells #[.int .i64 m[k].1,.int .i64 m[k].2.1,.int .i64 m[k].2.2] 54)).heap.size (wr.alloc (.cells #[.int .i64 m[k].1,.int .i64 m[k].2.1,.int .i64 m[k].2.2] 54)) w1 -> Kp w wr w1 b (off+k*3) m[k] m[k]):=fun w1 h=>kp_start hb hbw c0 c1 c2 h
       by_cases n1:NearP m[k]
       · have e1:=(nr3_iff m[k]).2 n1
         rw [e1] at HNear
         by_cases g1:m[k].2.1 <= m[k].1
         · have HC:Hid (mchk m=5):=mchk_no (k:=k) h3 hlt (by unfold Sound;rw [HG.out];rintro ⟨_,h,_⟩;omega)
           have d1:decide (m[k].2.1 <= m[k].1)=true:=by simpa using g1
           clear hc hl n1 e1 hb
           go_wp2_with fail
           generalize wr.alloc (.cells #[.int .i64 m[k].1,.int .i64 m[k].2.1,.int .i64 m[k].2.2] 54)=W0 at HK ⊢
           have f0:∀s:HeldIn W0,s.w.cell? ⟨wr.heap.size,0,none⟩=some (.int .i64 m[k].1):=fun s=>(HK.out _ s.h).k0
           have f1:∀s:HeldIn W0,s.w.cell? ⟨wr.heap.size,1,none⟩=some (.int .i64 m[k].2.1):=fun s=>(HK.out _ s.h).k1
           have f2:∀s:HeldIn W0,s.w.cell? ⟨wr.heap.size,2,none⟩=some (.int .i64 m[k].2.2):=fun s=>(HK.out _ s.h).k2
           have hne:Nonempty (HeldIn W0):=⟨⟨W0,Below.refl _ _⟩⟩
           refine wp_region_held W0 (Below.refl _ _) (by kernel_rfl) (by kernel_rfl) ?_
           repeat (go_big_quiet_step ((first | (go_at_call 68;exact held_of (HNear.out _)) | (go_at_call 69;exact held_of (HFol.out _)))))
           refine wpQuiet_nil ?_
           rintro _ ⟨s,rfl⟩
           have hbs:=(HK.out _ s.h).bel
           generalize s.w=w1 at hbs ⊢
           go_wp2
           go_ret
           exact ⟨ret_int HC.out.symm,hbs⟩
         · have d1:decide (m[k].2.1 <= m[k].1)=false:=by simpa using g1
           by_cases hk0:k=0
           · subst hk0
             simp only [Nat.zero_mul,Nat.add_zero] at c0 c1 c2
             have HS:Hid (MGood m (0+1)):=mgood_succ HN.out ⟨by rw [HG.out];exact n1,by rw [HG.out];omega,fun h=>absurd h (Nat.lt_irrefl _)⟩
             clear hc hl n1 e1 hb
             go_wp2_with fail
             generalize wr.alloc (.cells #[.int .i64 m[0].1,.int .i64 m[0].2.1,.int .i64 m[0].2.2] 54)=W0 at HK ⊢
             have f0:∀s:HeldIn W0,s.w.cell? ⟨wr.heap.size,0,none⟩=some (.int .i64 m[0].1):=fun s=>(HK.out _ s.h).k0
             have f1:∀s:HeldIn W0,s.w.cell? ⟨wr.heap.size,1,none⟩=some (.int .i64 m[0].2.1):=fun s=>(HK.out _ s.h).k1
             have f2:∀s:HeldIn W0,s.w.cell? ⟨wr.heap.size,2,none⟩=some (.int .i64 m[0].2.2):=fun s=>(HK.out _ s.h).k2
             have hne:Nonempty (HeldIn W0):=⟨⟨W0,Below.refl _ _⟩⟩
             refine wp_region_held W0 (Below.refl _ _) (by kernel_rfl) (by kernel_rfl) ?_
             repeat (go_big_quiet_step ((first | (go_at_call 68;exact held_of (HNear.out _)) | (go_at_call 69;exact held_of (HFol.out _)))))
             refine wpQuiet_nil ?_
             rintro _ ⟨s,rfl⟩
             have hbs:=(HK.out _ s.h).bel
             generalize s.w=w1 at hbs ⊢
             go_wp2
             go_roundw
             case rel=>exact ⟨0+1,by omega,by go_num,HS.out,hbs⟩
             case measure=>simp [intOf];omega
           · obtain ⟨j,rfl⟩:∃j,k=j+1:=⟨k- 1,by omega⟩
             have hj:j<m.length:=by omega
             obtain ⟨p0,p1,p2⟩:=PcAt.get hj hc
             have HGj:Hid (m.getD (j+1- 1) (0,0,0)=m[j]):=by show _=_;rw [Nat.add_sub_cancel];exact getD3 hj
             clear HK
             have HK:Hid (∀w1,Below (wr.alloc (.cells #[.int .i64 m[j+1].1,.int .i64 m[j+1].2.1,.int .i64 m[j+1].2.2] 54)).heap.size (wr.alloc (.cells #[.int .i64 m[j+1].1,.int .i64 m[j+1].2.1,.int .i64 m[j+1].2.2] 54)) w1 -> Kp w wr w1 b (off+j*3) m[j+1] m[j]):=fun w1 h=>kp_start hb hbw p0 p1 p2 h
             have HFol:Hid (∀W,Calls Seq.prog 69 #[.agg #[.int .i64 m[j].1,.int .i64 m[j].2.1,.int .i64 m[j].2.2],.agg #[.int .i64 m[j+1].1,.int .i64 m[j+1].2.1,.int .i64 m[j+1].2.2]] W fun e w' =>e= .returned (.bool (folB m[j] m[j+1])) /\ Below W.heap.size W w'):=fun W=>follows_any m[j].1 m[j].2.1 m[j].2.2 m[j+1].1 m[j+1].2.1 m[j+1].2.2 W
             have hj1:(0:Int) <= (j:Int):=by omega
             have hj2:(j:Int)<(m.length:Int):=by omega
             by_cases g2:Fol m[j] m[j+1]
             · have HS:Hid (MGood m (j+1+1)):=mgood_succ HN.out ⟨by rw [HG.out];exact n1,by rw [HG.out];omega,fun _=>by rw [HG.out,HGj.out];exact g2⟩
               rw [(folB_iff _ _).2 g2] at HFol
               clear hc hl n1 e1 hb g2
               go_wp2_with fail
               generalize wr.alloc (.cells #[.int .i64 m[j+1].1,.int .i64 m[j+1].2.1,.int .i64 m[j+1].2.2] 54)=W0 at HK ⊢
               have f0:∀s:HeldIn W0,s.w.cell? ⟨wr.heap.size,0,none⟩=some (.int .i64 m[j+1].1):=fun s=>(HK.out _ s.h).k0
               have f1:∀s:HeldIn W0,s.w.cell? ⟨wr.heap.size,1,none⟩=some (.int .i64 m[j+1].2.1):=fun s=>(HK.out _ s.h).k1
               have f2:∀s:HeldIn W0,s.w.cell? ⟨wr.heap.size,2,none⟩=some (.int .i64 m[j+1].2.2):=fun s=>(HK.out _ s.h).k2
               have q0:∀s:HeldIn W0,s.w.cell? ⟨b,off+j*3,none⟩=some (.int .i64 m[j].1):=fun s=>(HK.out _ s.h).q0
               have q1:∀s:HeldIn W0,s.w.cell? ⟨b,off+j*3+1,none⟩=some (.int .i64 m[j].2.1):=fun s=>(HK.out _ s.h).q1
               have q2:∀s:HeldIn W0,s.w.cell? ⟨b,off+j*3+2,none⟩=some (.int .i64 m[j].2.2):=fun s=>(HK.out _ s.h).q2
               have hne:Nonempty (HeldIn W0):=⟨⟨W0,Below.refl _ _⟩⟩
               refine wp_region_held W0 (Below.refl _ _) (by kernel_rfl) (by kernel_rfl) ?_
               repeat (go_big_quiet_step ((first | (go_at_call 68;exact held_of (HNear.out _)) | (go_at_call 69;exact held_of (HFol.out _)))))
               refine wpQuiet_nil ?_
               rintro _ ⟨s,rfl⟩
               have hbs:=(HK.out _ s.h).bel
               generalize s.w=w1 at hbs ⊢
               go_wp2
               go_roundw
               case rel=>exact ⟨j+1+1,by omega,by go_num,HS.out,hbs⟩
               case measure=>simp [intOf];omega
             · have HC:Hid (mchk m=5):=mchk_no (k:=j+1) h3 hlt (by unfold Sound;rw [HG.out,HGj.out];rintro ⟨_,_,h⟩;exact g2 (h (by omega)))
               rw [show folB m[j] m[j+1]=false from by rw [<- Bool.not_eq_true,folB_iff];exact g2] at HFol
               clear hc hl n1 e1 hb g2
               go_wp2_with fail
               generalize wr.alloc (.cells #[.int .i64 m[j+1].1,.int .i64 m[j+1].2.1,.int .i64 m[j+1].2.2] 54)=W0 at HK ⊢
               have f0:∀s:HeldIn W0,s.w.cell? ⟨wr.heap.size,0,none⟩=some (.int .i64 m[j+1].1):=fun s=>(HK.out _ s.h).k0
               have f1:∀s:HeldIn W0,s.w.cell? ⟨wr.heap.size,1,none⟩=some (.int .i64 m[j+1].2.1):=fun s=>(HK.out _ s.h).k1
               have f2:∀s:HeldIn W0,s.w.cell? ⟨wr.heap.size,2,none⟩=some (.int .i64 m[j+1].2.2):=fun s=>(HK.out _ s.h).k2
               have q0:∀s:HeldIn W0,s.w.cell? ⟨b,off+j*3,none⟩=some (.int .i64 m[j].1):=fun s=>(HK.out _ s.h).q0
               have q1:∀s:HeldIn W0,s.w.cell? ⟨b,off+j*3+1,none⟩=some (.int .i64 m[j].2.1):=fun s=>(HK.out _ s.h).q1
               have q2:∀s:HeldIn W0,s.w.cell? ⟨b,off+j*3+2,none⟩=some (.int .i64 m[j].2.2):=fun s=>(HK.out _ s.h).q2
               have hne:Nonempty (HeldIn W0):=⟨⟨W0,Below.refl _ _⟩⟩
               refine wp_region_held W0 (Below.refl _ _) (by kernel_rfl) (by kernel_rfl) ?_
               repeat (go_big_quiet_step ((first | (go_at_call 68;exact held_of (HNear.out _)) | (go_at_call 69;exact held_of (HFol.out _)))))
               refine wpQuiet_nil ?_
               rintro _ ⟨s,rfl⟩
               have hbs:=(HK.out _ s.h).bel
               generalize s.w=w1 at hbs ⊢
               go_wp2
               go_ret
               exact ⟨ret_int HC.out.symm,hbs⟩
       · have HC:Hid (mchk m=5):=mchk_no (k:=k) h3 hlt (by unfold Sound;rw [HG.out];rintro ⟨h,_,_⟩;exact n1 h)
         rw [show nr3 m[k].1 m[k].2.1 m[k].2.2=false from by rw [<- Bool.not_eq_true,nr3_iff];exact n1] at HNear
         clear hc hl n1 hb
         go_wp2_with fail
         generalize wr.alloc (.cells #[.int .i64 m[k].1,.int .i64 m[k].2.1,.int .i64 m[k].2.2] 54)=W0 at HK ⊢
         have f0:∀s:HeldIn W0,s.w.cell? ⟨wr.heap.size,0,none⟩=some (.int .i64 m[k].1):=fun s=>(HK.out _ s.h).k0
         have f1:∀s:HeldIn W0,s.w.cell? ⟨wr.heap.size,1,none⟩=some (.int .i64 m[k].2.1):=fun s=>(HK.out _ s.h).k1
         have f2:∀s:HeldIn W0,s.w.cell? ⟨wr.heap.size,2,none⟩=some (.int .i64 m[k].2.2):=fun s=>(HK.out _ s.h).k2
         have hne:Nonempty (HeldIn W0):=⟨⟨W0,Below.refl _ _⟩⟩
         refine wp_region_held W0 (Below.refl _ _) (by kernel_rfl) (by kernel_rfl) ?_
         repeat (go_big_quiet_step ((first | (go_at_call 68;exact held_of (HNear.out _)) | (go_at_call 69;exact held_of (HFol.out _)))))
         refine wpQuiet_nil ?_
         rintro _ ⟨s,rfl⟩
         have hbs:=(HK.out _ s.h).bel
         generalize s.w=w1 at hbs ⊢
         go_wp2
         go_ret
         exact ⟨ret_int HC.out.symm,hbs⟩
     · have hkl:k=m.length:=by omega
       subst hkl
       have HC:Hid (mchk m=0):=mchk_ok h3 HN.out
       go_wp2
       go_ret
       exact ⟨ret_int HC.out.symm,hb⟩
theorem getD_get {S:List Int} {i:Nat} (h:i<S.length):S.getD i 0=S[i]:=by simp [List.getD_eq_getElem?_getD,h]
theorem cnt_index {S:List Int} (hS:S.Pairwise (·<·)) (t:Int) (j:Nat) (hj:j<S.length):S[j] <= t↔j<cnt S t:=by
 induction S generalizing j with
 | nil=>simp at hj
 | cons x S ih=>
   rw [List.pairwise_cons] at hS
   rw [cnt_cons]
   by_cases hx:x <= t
   · rw [if_pos hx]
     cases j with
     | zero=>simp;omega
     | succ j=>
       have:=ih hS.2 j (by simpa using hj)
       simp only [List.getElem_cons_succ]
       omega
   · rw [if_neg hx,cnt_none (fun y hy=>by have:=hS.1 y hy;omega)]
     have:x <= (x::S)[j]:=by
       cases j with
       | zero=>simp
       | succ j=>
         simp only [List.getElem_cons_succ]
         have:=hS.1 _ (List.getElem_mem (by simpa using hj:j<S.length));omega
     omega
theorem has_same {l:List (Int×Int)} {s t:Int} (hst:s <= t) (h:∀x∈flat l,¬(s<x /\ x <= t)):has l s=has l t:=by
 induction l with
 | nil=>rfl
 | cons p l ih=>
   rw [flat_cons] at h
   rw [has_cons,has_cons,ih (fun x hx=>h x (by simp [hx]))]
   have h1:=h p.1 (by simp)
   have h2:=h p.2 (by simp)
   congr 1
   rw [Bool.eq_iff_iff]
   simp only [Bool.and_eq_true,decide_eq_true_eq]
   omega
structure MTurns (S:List Int) (f:Int -> Option Int):Prop where
 same:∀s t,s <= t -> (∀x∈S,¬(s<x /\ x <= t)) -> f s=f t
 low:∀t,(∀x∈S,t<x) -> f t=none
 high:∀t,(∀x∈S,x <= t) -> f t=none
theorem mseg_none {S:List Int} {f:Int -> Option Int} {i:Nat} {t:Int} (h:∀k,k<i -> ¬(S.getD k 0 <= t /\ t<S.getD (k+1) 0)):mseg S f i t=none:=by
 induction i with
 | zero=>rfl
 | succ i ih=>rw [mseg_succ,ih (fun k hk=>h k (by omega)),if_neg (h i (by omega))];rfl
theorem mseg_at {S:List Int} {f:Int -> Option Int} {i k:Nat} {t:Int} (hS:S.Pairwise (·<·)) (hi:i<S.length) (hk:k<i) (h:S.getD k 0 <= t /\ t<S.getD (k+1) 0):mseg S f i t=f (S.getD k 0):=by
 rw [List.pairwise_iff_getElem] at hS
 have mono:∀a b,a <= b -> b<S.length -> S.getD a 0 <= S.getD b 0:=by
   intro a b hab hb
   rw [getD_get (by omega:a<S.length),getD_get hb]
   by_cases e:a=b
   · subst e;exact Int.le_refl _
   · exact Int.le_of_lt (hS a b (by omega) hb (by omega))
 induction i with
 | zero=>omega
 | succ i ih=>
   rw [mseg_succ]
   by_cases e:k=i
   · subst e
     rw [mseg_none (fun j hj hc=> ?_),if_pos h]
     · rfl
     · have:=mono (j+1) k (by omega) (by omega);omega
   · rw [ih (by omega) (by omega),if_neg (fun hc=> ?_)]
     · cases f (S.getD k 0)<;>rfl
     · have:=mono (k+1) i (by omega) (by omega);omega
theorem mseg_turns {S:List Int} {f:Int -> Option Int} (hS:S.Pairwise (·<·)) (h:MTurns S f) (t:Int):mseg S f (S.length- 1) t=f t:=by
 have hc:=fun j hj=>cnt_index hS t j hj
 rcases Nat.eq_zero_or_pos (cnt S t) with h0 | h0
 · rw [h.low t (fun x hx=>by
     obtain ⟨j,hj,rfl⟩:=List.getElem_of_mem hx
     have:=hc j hj;omega)]
   refine mseg_none fun k hk hh=> ?_
   rw [getD_get (by omega:k<S.length)] at hh
   have:=(hc k (by omega)).1 hh.1;omega
 rcases Nat.lt_or_ge (cnt S t) S.length with h1 | h1
 · have a1:=(hc (cnt S t- 1) (by omega)).2 (by omega)
   have a2:¬S[cnt S t- 1+1] <= t:=fun hh=>by have:=(hc (cnt S t- 1+1) (by omega)).1 hh;omega
   rw [mseg_at (k:=cnt S t- 1) hS (by omega) (by omega) (by rw [getD_get (by omega:cnt S t- 1<S.length),getD_get (by omega:cnt S t- 1+1<S.length)];omega),getD_get (by omega:cnt S t- 1<S.length)]
   refine h.same _ t a1 fun x hx hcx=> ?_
   obtain ⟨j,hj,rfl⟩:=List.getElem_of_mem hx
   have hS':=hS
   rw [List.pairwise_iff_getElem] at hS'
   by_cases hjk:j <= cnt S t- 1
   · by_cases e:j=cnt S t- 1
     · subst e;omega
     · have:=hS' j (cnt S t- 1) hj (by omega) (by omega);omega
   · have:=(hc j hj).1 hcx.2;omega
 · rw [h.high t (fun x hx=>by
     obtain ⟨j,hj,rfl⟩:=List.getElem_of_mem hx
     have:=hc j hj;omega)]
   refine mseg_none fun k hk hh=> ?_
   rw [getD_get (by omega:k+1<S.length)] at hh
   have:=(hc (k+1) (by omega)).2 (by omega);omega
theorem inP_same {p:Int×Int×Int} {s t:Int} (hst:s <= t) (h1:¬(s<p.1 /\ p.1 <= t)) (h2:¬(s<p.2.1 /\ p.2.1 <= t)):inP p s=inP p t:=by
 rw [Bool.eq_iff_iff,inP_iff,inP_iff];omega
theorem tel_same {m:List (Int×Int×Int)} {s t:Int} (hst:s <= t) (h:∀x∈turnsOf m,¬(s<x /\ x <= t)):tel m s=tel m t:=by
 induction m with
 | nil=>rfl
 | cons p m ih=>
   have hp:=mem_turnsOf (m:=p::m) (p:=p) (by simp)
   rw [tel_cons,tel_cons,inP_same hst (h _ hp.1) (h _ hp.2),ih fun x hx=>h x (by unfold turnsOf at hx ⊢;rw [List.flatMap_cons,List.mem_append];exact .inr hx)]
theorem inP_low {p:Int×Int×Int} {t:Int} (h:t<p.1):inP p t=false:=by unfold inP;simp only [Bool.and_eq_false_iff,decide_eq_false_iff_not];omega
theorem inP_high {p:Int×Int×Int} {t:Int} (h:p.2.1 <= t):inP p t=false:=by unfold inP;simp only [Bool.and_eq_false_iff,decide_eq_false_iff_not];omega
theorem tel_low {m:List (Int×Int×Int)} {t:Int} (h:∀x∈turnsOf m,t<x):tel m t=none:=tel_none fun _ hp=>inP_low (h _ (mem_turnsOf hp).1)
theorem tel_high {m:List (Int×Int×Int)} {t:Int} (h:∀x∈turnsOf m,x <= t):tel m t=none:=tel_none fun _ hp=>inP_high (h _ (mem_turnsOf hp).2)
def putF (m:List (Int×Int×Int)) (p:Int×Int×Int) (t:Int):Option Int:=if inP p t then some p.2.2 else tel m t
theorem putF_turns {m:List (Int×Int×Int)} {p:Int×Int×Int} {S:List Int} (hm:∀x,x∈S↔x∈turnsOf m++[p.1,p.2.1]):MTurns S (putF m p):=by
 have h1:∀x∈turnsOf m,x∈S:=fun x hx=>(hm x).2 (by simp [hx])
 have h2:p.1∈S:=(hm _).2 (by simp)
 have h3:p.2.1∈S:=(hm _).2 (by simp)
 refine ⟨fun s t hst h=> ?_,fun t h=> ?_,fun t h=> ?_⟩
 · unfold putF;rw [inP_same hst (h _ h2) (h _ h3),tel_same hst fun x hx=>h x (h1 x hx)]
 · unfold putF;rw [inP_low (h _ h2),tel_low fun x hx=>h x (h1 x hx)];rfl
 · unfold putF;rw [inP_high (h _ h3),tel_high fun x hx=>h x (h1 x hx)];rfl
def onlyF (m:List (Int×Int×Int)) (l:List (Int×Int)) (b:Bool) (t:Int):Option Int:=if has l t=b then tel m t else none
theorem onlyF_turns {m:List (Int×Int×Int)} {l:List (Int×Int)} {b:Bool} {S:List Int} (hm:∀x,x∈S↔x∈turnsOf m++flat l):MTurns S (onlyF m l b):=by
 have h1:∀x∈turnsOf m,x∈S:=fun x hx=>(hm x).2 (by simp [hx])
 have h2:∀x∈flat l,x∈S:=fun x hx=>(hm x).2 (by simp [hx])
 refine ⟨fun s t hst h=> ?_,fun t h=> ?_,fun t h=> ?_⟩
 · unfold onlyF;rw [has_same hst fun x hx=>h x (h2 x hx),tel_same hst fun x hx=>h x (h1 x hx)]
 · unfold onlyF;rw [tel_low fun x hx=>h x (h1 x hx)];simp
 · unfold onlyF;rw [tel_high fun x hx=>h x (h1 x hx)];simp
def both (how x y:Int):Int:=if how=1 then min x y else if how=2 then max x y else x+y
def isHow (how:Int):Bool:=decide (how=1 \/ how=2 \/ how=3)
theorem isHow_yes {how:Int} (h:how=1 \/ how=2 \/ how=3):isHow how=true:=by unfold isHow;rw [decide_eq_true_eq];exact h
theorem isHow_no {how:Int} (h:¬(how=1 \/ how=2 \/ how=3)):isHow how=false:=by unfold isHow;rw [decide_eq_false_iff_not];exact h
def wideB (x:Int):Prop:= -1000000000000 <= x /\ x <= 1000000000000
theorem wide_of_near {x:Int} (h:nearB x):wideB x:=by unfold nearB at h;unfold wideB;omega
def mrg (how:Int):Option Int -> Option Int -> Option Int
 | none,y=>y
 | some x,none=>some x
 | some x,some y=>some (both how x y)
def mergeF (a b:List (Int×Int×Int)) (how t:Int):Option Int:=mrg how (tel a t) (tel b t)
theorem mergeF_turns {a b:List (Int×Int×Int)} {how:Int} {S:List Int} (hm:∀x,x∈S↔x∈turnsOf a++turnsOf b):MTurns S (mergeF a b how):=by
 have h1:∀x∈turnsOf a,x∈S:=fun x hx=>(hm x).2 (by simp [hx])
 have h2:∀x∈turnsOf b,x∈S:=fun x hx=>(hm x).2 (by simp [hx])
 refine ⟨fun s t hst h=> ?_,fun t h=> ?_,fun t h=> ?_⟩
 · unfold mergeF;rw [tel_same hst fun x hx=>h x (h1 x hx),tel_same hst fun x hx=>h x (h2 x hx)]
 · unfold mergeF;rw [tel_low fun x hx=>h x (h1 x hx),tel_low fun x hx=>h x (h2 x hx)];rfl
 · unfold mergeF;rw [tel_high fun x hx=>h x (h1 x hx),tel_high fun x hx=>h x (h2 x hx)];rfl
theorem tl_tel {A S:List Int} {f:Int -> Option Int} {o:List (Int×Int×Int)} (hO:Ordered A S) (hf:MTurns S f) (T:Tl S f (S.length- 1) o) (t:Int):tel o t=f t:=by
 rw [T.pts,mseg_turns hO.inc hf]
structure Bx3 (w W:World) (x y z:Value):Prop where
 c1:W.cell? ⟨w.heap.size,0,none⟩=some x
 c2:W.cell? ⟨w.heap.size+1,0,none⟩=some y
 c3:W.cell? ⟨w.heap.size+1+1,0,none⟩=some z
 bel:Below w.heap.size w W
 lt:w.heap.size+2<W.heap.size
theorem bx3_start (w:World) (x y z:Value) (t1 t2 t3:TypeId):Bx3 w (((w.alloc (.cells #[x] t1)).alloc (.cells #[y] t2)).alloc (.cells #[z] t3)) x y z:=by
 refine ⟨?_,?_,?_,ptw (pal _ _) (ptw (pal _ _) (pal _ _)),by simp⟩
 · rw [World.cell?_alloc_past _ _ _ (by simp;omega),World.cell?_alloc_past _ _ _ (by simp),World.cell?_alloc_at _ _ _ _ rfl];rfl
 · rw [World.cell?_alloc_past _ _ _ (by simp),World.cell?_alloc_at _ _ _ _ (by simp)];rfl
 · rw [World.cell?_alloc_at _ _ _ _ (by simp)];rfl
theorem Bx3.below {w W W' :World} {x y z:Value} (h:Bx3 w W x y z) (hb:Below W.heap.size W W'):Bx3 w W' x y z:=by
 have l:=h.lt
 refine ⟨?_,?_,?_,ptw h.bel hb,Nat.lt_of_lt_of_le l hb.size⟩
 · rw [hb.cell (p:=⟨w.heap.size,0,none⟩) (by show w.heap.size<_;omega)];exact h.c1
 · rw [hb.cell (p:=⟨w.heap.size+1,0,none⟩) (by show w.heap.size+1<_;omega)];exact h.c2
 · rw [hb.cell (p:=⟨w.heap.size+1+1,0,none⟩) (by show w.heap.size+1+1<_;omega)];exact h.c3
theorem step_append_row {P:Program} (w:World) {ops:Array Oper} {o:Oper} {a:Act} {K:Act -> World -> Prop} {Q:Exit -> Act -> World -> Prop} {E:Prop} (hgd:o.guard=none) (s x:Operand) (t:TypeId)
   (ho:o.op= .call {callee:= .builtin .append,args:=#[s,x],argTypes:=#[t,t] })
   (base:Nat) (e:TypeId) (i:TypeInfo) (z:Value) (size bytes:Nat) (ht:P.underlying t=some (.slice e)) (hi:P.info? e=some i) (hz:i.zero=some z)
   (hsize:i.size=size) (hby:i.bytes=bytes) (hzs:z.cells.size=size) (hsz:0<size)
   (g0 n c0:Nat) (xs:List Value) (hs:a.eval s= .slice (some ⟨g0,0,none⟩) n c0) (hown:w.ownsRow base e size (.slice (some ⟨g0,0,none⟩) n c0) n xs)
   (ad:Addr) (m c:Nat) (news:List Value) (hx:a.eval x= .slice (some ad) m c) (hl:news.length=m*size) (hnews:∀j u,news[j]? =some u -> w.cell? (ad.add j)=some u) (h1:∀u∈news,u.oneCell' =true)
   (h63:n+m <= maxLen) (hbytes:(n+m)*bytes <= 140737488355328) (hbase:base <= w.heap.size)
   (h:∀g cap w',w'.ownsRow base e size (.slice (some ⟨g,0,none⟩) (n+m) cap) (n+m) (xs++news) -> w.grownBy w' (some g0) -> K (a.put o.dst (.slice (some ⟨g,0,none⟩) (n+m) cap)) w'):
   if Region.wanted o (yielded ops a.tmps)=true then Oper.wp P o a w K Q else E:=by
 have hw:Region.wanted o (yielded ops a.tmps)=true:=by simp [Region.wanted,hgd]
 rw [if_pos hw]
 obtain ⟨v',w',hr,h2,h3,h4⟩:=run_append_own (P:=P) w base t o.type e i z size bytes ht hi hz hsize hby hzs hsz _ n xs hown ad m c news hl hnews h1 h63 hbytes hbase
 rcases h2.2 with ⟨hv,_⟩ | ⟨g,cap,cur,hv,_⟩
 · exact absurd (h4.1 hv).1 (by simp)
 · subst hv
   unfold Oper.wp execOp
   simp only [ho,resolve,invoke,builtin,Sem.run_bind,Sem.run_pure,Result.andThen_ok,List.map_toArray,List.map_cons,List.map_nil,hs,hx,hr]
   exact h g cap w' h2 h3
theorem mchk_bad {m:List (Int×Int×Int)} (h:¬mchk m=0):∃n,mchk m=n /\ (n=2 \/ n=5):=by
 rcases mchk_cases m with e | e | ⟨e,_⟩
 · exact ⟨2,e,.inl rfl⟩
 · exact ⟨5,e,.inr rfl⟩
 · exact absurd e h
theorem mchk_good {m:List (Int×Int×Int)} (h:mchk m=0):m.length <= 200 /\ MCan m /\ ∀p∈m,NearP p:=by
 rcases mchk_cases m with e | e | ⟨_,h1,h2⟩
 · omega
 · omega
 · exact ⟨h1,mcan_of_good h2,near_of_good h2⟩
theorem tel_near {m:List (Int×Int×Int)} (hn:∀p∈m,NearP p) {t v:Int} (h:tel m t=some v):nearB v:=by
 obtain ⟨p,hp,_,rfl⟩:=tel_mem h
 exact (hn p hp).2.2
theorem join_any (x y how:Int) (w:World) (hh:how=1 \/ how=2 \/ how=3) (hx:wideB x) (hy:wideB y):
   Calls Seq.prog 45 #[.int .i64 x,.int .i64 y,.int .i64 how] w fun e w' =>e= .returned (.int .i64 (both how x y)) /\ w' =w:=by
 unfold wideB at hx hy
 obtain ⟨x1,x2⟩:=hx
 obtain ⟨y1,y2⟩:=hy
 rcases hh with rfl | rfl | rfl
 · have HC:Hid (both 1 x y=min x y):=rfl
   go_enter Seq.func45,Tryz.ntmps45
   go_wp2
   all_goals go_ret
   all_goals exact ⟨ret_int (by first | (rw [HC.out];done) | (rw [HC.out];omega)),rfl⟩
 · have HC:Hid (both 2 x y=max x y):=rfl
   go_enter Seq.func45,Tryz.ntmps45
   go_wp2
   all_goals go_ret
   all_goals exact ⟨ret_int (by first | (rw [HC.out];done) | (rw [HC.out];omega)),rfl⟩
 · have HC:Hid (both 3 x y=x+y):=rfl
   go_enter Seq.func45,Tryz.ntmps45
   go_wp2
   all_goals go_ret
   all_goals exact ⟨ret_int (by first | (rw [HC.out];done) | (rw [HC.out];omega)),rfl⟩
theorem joins_any (how:Int) (w:World):
   Calls Seq.prog 41 #[.int .i64 how] w fun e w' =>e= .returned (.bool (isHow how)) /\ w' =w:=by
 by_cases h1:how=1
 · have HC:Hid (isHow how=true):=isHow_yes (.inl h1)
   subst h1
   go_enter Seq.func41,Tryz.ntmps41
   go_wp2
   go_ret
   exact ⟨ret_bool HC.out.symm,rfl⟩
 · have d1:(how==1)=false:=by simpa using h1
   by_cases h2:how=2
   · have HC:Hid (isHow how=true):=isHow_yes (.inr (.inl h2))
     subst h2
     clear d1 h1
     go_enter Seq.func41,Tryz.ntmps41
     go_wp2
     go_ret
     exact ⟨ret_bool HC.out.symm,rfl⟩
   · have d2:(how==2)=false:=by simpa using h2
     by_cases h3:how=3
     · have HC:Hid (isHow how=true):=isHow_yes (.inr (.inr h3))
       subst h3
       clear d1 d2 h1 h2
       go_enter Seq.func41,Tryz.ntmps41
       go_wp2
       go_ret
       exact ⟨ret_bool HC.out.symm,rfl⟩
     · have d3:(how==3)=false:=by simpa using h3
       have HC:Hid (isHow how=false):=isHow_no (by omega)
       clear h1 h2 h3
       go_enter Seq.func41,Tryz.ntmps41
       go_wp2
       go_ret
       exact ⟨ret_bool HC.out.symm,rfl⟩
set_option maxRecDepth 100000 in
set_option maxHeartbeats 2000000 in
theorem merge1_any (Ba Bb Bh:Nat) (how:Int) (hh:how=1 \/ how=2 \/ how=3) (ao bo:Option Addr) (ca cb:Nat) (a b:List (Int×Int×Int)) (t:Int) (w:World) (hA:PcAt w ao a) (hB:PcAt w bo b) (la:a.length <= 200) (lb:b.length <= 200) (na:∀p∈a,NearP p) (nb:∀p∈b,NearP p)
   (c1:w.cell? ⟨Ba,0,none⟩=some (.slice ao a.length ca)) (c2:w.cell? ⟨Bb,0,none⟩=some (.slice bo b.length cb)) (c3:w.cell? ⟨Bh,0,none⟩=some (.int .i64 how)):
   Calls Seq.prog 44 #[.int .i64 t,.pointer (some ⟨Ba,0,none⟩),.pointer (some ⟨Bb,0,none⟩),.pointer (some ⟨Bh,0,none⟩)] w fun e w' =>(∃x,e= .returned (.tuple #[.int .i64 x,.bool (mergeF a b how t).isSome]) /\ ∀y,mergeF a b how t=some y -> x=y) /\ Below w.heap.size w w':=by
 have hHa:=PAt_any ao ca a t w hA (by omega)
 have HHb:Hid (∀W,Below w.heap.size w W -> Calls Seq.prog 11 #[.slice bo b.length cb,.int .i64 t] W fun e w' =>e= .returned (.tuple #[.int .i64 ((tel b t).getD 0),.bool (tel b t).isSome]) /\ Below W.heap.size W w'):=fun W h=>PAt_any bo cb b t W (hB.below h) (by omega)
 have l2:=World.block_lt_of_cell? w _ c2
 have l3:=World.block_lt_of_cell? w _ c3
 simp only at l2 l3
 have HC2:Hid (∀W,Below w.heap.size w W -> W.cell? ⟨Bb,0,none⟩=some (.slice bo b.length cb) /\ W.cell? ⟨Bh,0,none⟩=some (.int .i64 how)):=fun W h=>⟨(h.cell (p:=⟨Bb,0,none⟩) l2).trans c2,(h.cell (p:=⟨Bh,0,none⟩) l3).trans c3⟩
 have hna:∀x,tel a t=some x -> nearB x:=fun x h=>tel_near na h
 have hnb:∀x,tel b t=some x -> nearB x:=fun x h=>tel_near nb h
 have HF:Hid (mergeF a b how t=mrg how (tel a t) (tel b t)):=rfl
 rw [HF.out]
 clear hA hB na nb c2 c3 HF
 cases hx:tel a t with
 | none=>
   simp only [hx,Option.getD_none,Option.isSome_none] at hHa
   cases hy:tel b t with
   | none=>
     simp only [hy,Option.getD_none,Option.isSome_none] at HHb
     clear hx hy hna hnb
     go_enter Seq.func44,Tryz.ntmps44
     go_wp2_with fail
     refine hHa.mono ?_
     rintro e w1 ⟨rfl,hb1⟩
     obtain ⟨d2,d3⟩:=HC2.out w1 hb1
     go_wp2_with fail
     refine (HHb.out w1 hb1).mono ?_
     rintro e w2 ⟨rfl,hb2⟩
     have hbb:=ptw hb1 hb2
     clear hb1 hb2 d2
     go_wp2
     go_ret2
     exact ⟨⟨0,rfl,fun y h=>by cases h⟩,hbb⟩
   | some y=>
     simp only [hy,Option.getD_some,Option.isSome_some] at HHb
     clear hx hy hna hnb
     go_enter Seq.func44,Tryz.ntmps44
     go_wp2_with fail
     refine hHa.mono ?_
     rintro e w1 ⟨rfl,hb1⟩
     obtain ⟨d2,d3⟩:=HC2.out w1 hb1
     go_wp2_with fail
     refine (HHb.out w1 hb1).mono ?_
     rintro e w2 ⟨rfl,hb2⟩
     have hbb:=ptw hb1 hb2
     clear hb1 hb2 d2
     go_wp2
     go_ret2
     exact ⟨⟨y,rfl,fun z h=>by cases h;rfl⟩,hbb⟩
 | some x=>
   simp only [hx,Option.getD_some,Option.isSome_some] at hHa
   cases hy:tel b t with
   | none=>
     simp only [hy,Option.getD_none,Option.isSome_none] at HHb
     clear hx hy hna hnb
     go_enter Seq.func44,Tryz.ntmps44
     go_wp2_with fail
     refine hHa.mono ?_
     rintro e w1 ⟨rfl,hb1⟩
     obtain ⟨d2,d3⟩:=HC2.out w1 hb1
     go_wp2_with fail
     refine (HHb.out w1 hb1).mono ?_
     rintro e w2 ⟨rfl,hb2⟩
     have hbb:=ptw hb1 hb2
     clear hb1 hb2 d2
     go_wp2
     go_ret2
     exact ⟨⟨x,rfl,fun z h=>by cases h;rfl⟩,hbb⟩
   | some y=>
     simp only [hy,Option.getD_some,Option.isSome_some] at HHb
     have hT:=fun W=>join_any x y how W hh (wide_of_near (hna x hx)) (wide_of_near (hnb y hy))
     have HR:Hid (mrg how (some x) (some y)=some (both how x y)):=rfl
     rw [HR.out]
     clear hx hy hna hnb HR
     generalize both how x y=q at hT ⊢
     go_enter Seq.func44,Tryz.ntmps44
     go_wp2_with fail
     refine hHa.mono ?_
     rintro e w1 ⟨rfl,hb1⟩
     obtain ⟨d2,d3⟩:=HC2.out w1 hb1
     go_wp2_with fail
     refine (HHb.out w1 hb1).mono ?_
     rintro e w2 ⟨rfl,hb2⟩
     have hbb:=ptw hb1 hb2
     have d3':=(HC2.out w2 hbb).2
     clear hb1 hb2 d2 d3
     go_wp2_with (go_at_call 45;refine (hT _).mono ?_;rintro e w' ⟨rfl,rfl⟩)
     go_ret2
     exact ⟨⟨q,rfl,fun z h=>by cases h;rfl⟩,hbb⟩
def MergeIs (a b:List (Int×Int×Int)) (how n:Int) (r:List (Int×Int×Int)):Prop:=
 (¬mchk a=0 /\ n=mchk a /\ r=[]) \/ (mchk a=0 /\ ¬mchk b=0 /\ n=mchk b /\ r=[]) \/ (mchk a=0 /\ mchk b=0 /\ ¬(how=1 \/ how=2 \/ how=3) /\ n=1 /\ r=[]) \/
 (mchk a=0 /\ mchk b=0 /\ (how=1 \/ how=2 \/ how=3) /\ MapIs (turnsOf a++turnsOf b) (mergeF a b how) n r)
theorem hide3 {p:Prop} (h:p):Hid p:=h
theorem nil3 (w W:World):W.ownsRow w.heap.size 54 3 (.slice none 0 0) ([]:List (Int×Int×Int)).length (enc3 []):=World.ownsRow_nil _ _ _ _
set_option maxRecDepth 100000 in
set_option maxHeartbeats 4000000 in
theorem Merge_any (how:Int) (ao bo:Option Addr) (ca cb:Nat) (a b:List (Int×Int×Int)) (w:World) (hA:PcAt w ao a) (hB:PcAt w bo b):
   Calls Seq.prog 15 #[.slice ao a.length ca,.slice bo b.length cb,.int .i64 how] w fun e w' =>∃n r,MergeIs a b how n r /\ Told3 w w' e n r:=by
 have h1:=fun W (h:Below w.heap.size w W)=>PCheck_any ao ca a W (hA.below h)
 have h2:=fun W (h:Below w.heap.size w W)=>PCheck_any bo cb b W (hB.below h)
 by_cases e1:¬mchk a=0
 · obtain ⟨n,en,hn⟩:=mchk_bad e1
   have HC:Hid (MergeIs a b how n []):= .inl ⟨e1,en.symm,rfl⟩
   simp only [en] at h1
   clear e1 h2 en
   rcases hn with rfl | rfl
   all_goals
     go_enter Seq.func15,Tryz.ntmps15
     go_wp2_with fail
     have B0:=bx3_start w (.slice ao a.length ca) (.slice bo b.length cb) (.int .i64 how) 41 41 3
     refine (h1 _ B0.bel).mono ?_
     rintro e w1 ⟨rfl,hb1⟩
     have g1:=ptw B0.bel hb1
     clear B0 hb1
     go_wp2
     go_ret2
     exact ⟨_,_,HC.out,_,rfl,nil3 _ _,g1⟩
 rw [Decidable.not_not] at e1
 simp only [e1] at h1
 obtain ⟨la,ma,na⟩:=mchk_good e1
 have HE1:Hid (mchk a=0):=e1
 have HNA:Hid (∀p∈a,NearP p):=na
 clear e1 na ma
 by_cases e2:¬mchk b=0
 · obtain ⟨n,en,hn⟩:=mchk_bad e2
   have HC:Hid (MergeIs a b how n []):= .inr (.inl ⟨HE1.out,e2,en.symm,rfl⟩)
   simp only [en] at h2
   clear e2 en
   rcases hn with rfl | rfl
   all_goals
     go_enter Seq.func15,Tryz.ntmps15
     go_wp2_with fail
     have B0:=bx3_start w (.slice ao a.length ca) (.slice bo b.length cb) (.int .i64 how) 41 41 3
     refine (h1 _ B0.bel).mono ?_
     rintro e w1 ⟨rfl,hb1⟩
     have B1:=B0.below hb1
     have cc2:=B1.c2
     have g1:=B1.bel
     clear B0 hb1 B1
     go_wp2_with fail
     refine (h2 _ g1).mono ?_
     rintro e w2 ⟨rfl,hb2⟩
     have g2:=ptw g1 hb2
     clear g1 hb2 cc2
     go_wp2
     go_ret2
     exact ⟨_,_,HC.out,_,rfl,nil3 _ _,g2⟩
 rw [Decidable.not_not] at e2
 simp only [e2] at h2
 obtain ⟨lb,mb,nb⟩:=mchk_good e2
 have HE2:Hid (mchk b=0):=e2
 have HNB:Hid (∀p∈b,NearP p):=nb
 clear e2 nb mb
 by_cases hh:¬(how=1 \/ how=2 \/ how=3)
 · have HC:Hid (MergeIs a b how 1 []):= .inr (.inr (.inl ⟨HE1.out,HE2.out,hh,rfl,rfl⟩))
   have hJ:=fun W=>joins_any how W
   rw [isHow_no hh] at hJ
   clear hh
   go_enter Seq.func15,Tryz.ntmps15
   go_wp2_with fail
   have B0:=bx3_start w (.slice ao a.length ca) (.slice bo b.length cb) (.int .i64 how) 41 41 3
   refine (h1 _ B0.bel).mono ?_
   rintro e w1 ⟨rfl,hb1⟩
   have B1:=B0.below hb1
   have cc2:=B1.c2
   have g1:=B1.bel
   clear B0 hb1
   go_wp2_with fail
   refine (h2 _ g1).mono ?_
   rintro e w2 ⟨rfl,hb2⟩
   have B2:=B1.below hb2
   have cc3:=B2.c3
   have g2:=B2.bel
   clear g1 hb2 cc2 B1 B2
   go_wp2_with (go_at_call 41;refine (hJ _).mono ?_;rintro e w' ⟨rfl,rfl⟩)
   go_ret2
   exact ⟨_,_,HC.out,_,rfl,nil3 _ _,g2⟩
 rw [Decidable.not_not] at hh
 have HH:Hid (how=1 \/ how=2 \/ how=3):=hh
 obtain ⟨i0,hi,hz0,hz1,hz2⟩:=info_parts Tryz.infoInt
 have hmf:∀(fn:Fn) (first cap:Array Value) (w:World),(Instr.makeFunc fn first cap).run Seq.prog w= .ok (.func fn first cap) w:=fun _ _ _ _=>rfl
 have hlA:(turnsOf a).length=2*a.length:=turnsOf_length a
 have hlB:(turnsOf b).length=2*b.length:=turnsOf_length b
 have HLN:Hid ((turnsOf a++turnsOf b).length=2*a.length+2*b.length):=by show _=_;rw [List.length_append,hlA,hlB]
 have hNB:Hid (((turnsOf b).map (Value.int .i64)).length=2*b.length*1):=by show _=_;rw [List.length_map,hlB];omega
 have hOB:Hid (∀u∈(turnsOf b).map (Value.int .i64),u.oneCell' =true):=by intro u hu;rw [List.mem_map] at hu;obtain ⟨z,_,rfl⟩:=hu;rfl
 have hMx:Hid (2*a.length+2*b.length <= maxLen):=by show _ <= _;unfold maxLen;omega
 have hBy:Hid ((2*a.length+2*b.length)*8 <= 140737488355328):=by show _ <= _;omega
 clear hlA hlB
 have hJ:=fun W=>joins_any how W
 rw [isHow_yes hh] at hJ
 clear hh
 have hgo:∀w2,Bx3 w w2 (.slice ao a.length ca) (.slice bo b.length cb) (.int .i64 how) -> ∀W gg cap1,W.ownsRow w2.heap.size 3 1 (.slice (some ⟨gg,0,none⟩) (2*a.length+2*b.length) cap1) (2*a.length+2*b.length) ((turnsOf a).map (Value.int .i64)++(turnsOf b).map (Value.int .i64)) -> Below w2.heap.size w2 W ->
     Calls Seq.prog 42 #[.slice (some ⟨gg,0,none⟩) (2*a.length+2*b.length) cap1,.func (.func 44) #[] #[.pointer (some ⟨w.heap.size,0,none⟩),.pointer (some ⟨w.heap.size+1,0,none⟩),.pointer (some ⟨w.heap.size+1+1,0,none⟩)]] W fun e w' =>∃n r v',MergeIs a b how n r /\ e= .returned (.tuple #[v',.int .i64 n]) /\ w'.ownsRow w.heap.size 54 3 v' r.length (enc3 r) /\ Below w2.heap.size w2 w':=by
   intro w2 B2 W gg cap1 hv hbW
   have hp:∀t wq,Below w2.heap.size w2 wq -> Calls Seq.prog 44 (#[.int .i64 t]++#[.pointer (some ⟨w.heap.size,0,none⟩),.pointer (some ⟨w.heap.size+1,0,none⟩),.pointer (some ⟨w.heap.size+1+1,0,none⟩)]) wq fun e w' =>(∃x,e= .returned (.tuple #[.int .i64 x,.bool (mergeF a b how t).isSome]) /\ ∀y,mergeF a b how t=some y -> x=y) /\ Below wq.heap.size wq w':=by
     intro t wq hq
     have Bq:=B2.below hq
     exact merge1_any w.heap.size (w.heap.size+1) (w.heap.size+1+1) how HH.out ao bo ca cb a b t wq (hA.below Bq.bel) (hB.below Bq.bel) la lb HNA.out HNB.out Bq.c1 Bq.c2 Bq.c3
   have hbl:=build_own 44 _ (mergeF a b how) (enters_of Seq.func44 (by kernel_rfl) rfl) w2 W hbW hp gg cap1 (turnsOf a++turnsOf b) (by rw [HLN.out,List.map_append];exact hv) (by rw [HLN.out];omega)
   rw [HLN.out] at hbl
   refine hbl.mono ?_
   rintro e w' ⟨n,r,v',hM,rfl,ho,hb⟩
   exact ⟨n,r,v',.inr (.inr (.inr ⟨HE1.out,HE2.out,HH.out,hM⟩)),rfl,ownsRow_base ho B2.bel.size,hb⟩
 have HGO:=hgo
 have HGo:Hid (∀w2,Bx3 w w2 (.slice ao a.length ca) (.slice bo b.length cb) (.int .i64 how) -> ∀W gg cap1,W.ownsRow w2.heap.size 3 1 (.slice (some ⟨gg,0,none⟩) (2*a.length+2*b.length) cap1) (2*a.length+2*b.length) ((turnsOf a).map (Value.int .i64)++(turnsOf b).map (Value.int .i64)) -> Below w2.heap.size w2 W ->
     Calls Seq.prog 42 #[.slice (some ⟨gg,0,none⟩) (2*a.length+2*b.length) cap1,.func (.func 44) #[] #[.pointer (some ⟨w.heap.size,0,none⟩),.pointer (some ⟨w.heap.size+1,0,none⟩),.pointer (some ⟨w.heap.size+1+1,0,none⟩)]] W fun e w' =>∃n r v',MergeIs a b how n r /\ e= .returned (.tuple #[v',.int .i64 n]) /\ w'.ownsRow w.heap.size 54 3 v' r.length (enc3 r) /\ Below w2.heap.size w2 w'):=hgo
 have HPA:Hid (∀W,Below w.heap.size w W -> PcAt W ao a /\ PcAt W bo b):=fun W h=>⟨hA.below h,hB.below h⟩
 clear hgo HGO hA hB
 have B0:=bx3_start w (.slice ao a.length ca) (.slice bo b.length cb) (.int .i64 how) 41 41 3
 all_goals
   go_enter Seq.func15,Tryz.ntmps15
   go_wp2_with fail
   refine (h1 _ B0.bel).mono ?_
   rintro e w1 ⟨rfl,hb1⟩
   have B1:=B0.below hb1
   have cc2:=B1.c2
   have g1:=B1.bel
   clear B0 hb1
   go_wp2_with fail
   refine (h2 _ g1).mono ?_
   rintro e w2 ⟨rfl,hb2⟩
   have B2:=B1.below hb2
   clear g1 hb2 cc2 B1 h1 h2
   have cc1:=B2.c1
   have cc2:=B2.c2
   have cc3:=B2.c3
   have hGo:=HGo.out w2 B2
   have HG2:=hGo
   have HL:=B2.lt
   have HBel:Hid (Below w.heap.size w w2):=B2.bel
   have hEA:Hid (∀W,Below w2.heap.size w2 W -> Calls Seq.prog 43 #[.slice ao a.length ca] W fun e w' =>∃g,e= .returned (.slice (some ⟨g,0,none⟩) (2*a.length) (2*a.length)) /\ w'.ownsRow w2.heap.size 3 1 (.slice (some ⟨g,0,none⟩) (2*a.length) (2*a.length)) (2*a.length) ((turnsOf a).map (Value.int .i64)) /\ Below W.heap.size W w'):=fun W h=>
     (pbounds_any ao ca a W (HPA.out W (ptw B2.bel h)).1 la).mono fun e w' ⟨g,he,ho,hb⟩=>⟨g,he,ownsRow_base ho h.size,hb⟩
   have hEB:Hid (∀W,Below w2.heap.size w2 W -> Calls Seq.prog 43 #[.slice bo b.length cb] W fun e w' =>∃g,e= .returned (.slice (some ⟨g,0,none⟩) (2*b.length) (2*b.length)) /\ w'.ownsRow W.heap.size 3 1 (.slice (some ⟨g,0,none⟩) (2*b.length) (2*b.length)) (2*b.length) ((turnsOf b).map (Value.int .i64)) /\ Below W.heap.size W w'):=fun W h=>
     pbounds_any bo cb b W (HPA.out W (ptw B2.bel h)).2 lb
   have hl1:w.heap.size<w2.heap.size:=by omega
   have hl2:w.heap.size+1<w2.heap.size:=by omega
   have HGF:=hide3 hGo
   clear B2 hGo HG2 HGo HPA
   go_wp2_with fail
   refine (hJ _).mono ?_
   rintro e w2' ⟨rfl,hw2⟩
   have hw2s:=hw2.symm
   subst hw2s
   clear hJ hw2
   go_wp2_with fail
   go_region_held3 (fun w' => w'.cell? ⟨w.heap.size, 0, none⟩ = some (.slice ao a.length ca) /\ w'.cell? ⟨w.heap.size + 1, 0, none⟩ = some (.slice bo b.length cb))
     (first | go_keep | (refine ⟨?_,?_⟩<;>assumption))
     (first
       | (go_at_call_of 43 (Value.slice ao a.length ca);refine (hEA.out _ (Below.refl _ _).drew).mono ?_;rintro e w3 ⟨g1,rfl,hownA,hb3⟩;have hb3' :Below w2.heap.size w2 w3:=ptw (Below.refl _ _).drew hb3;have k13:=(hb3'.cell (p:=⟨w.heap.size,0,none⟩) hl1).trans cc1;have k23:=(hb3'.cell (p:=⟨w.heap.size+1,0,none⟩) hl2).trans cc2)
       | (go_at_call_of 43 (Value.slice bo b.length cb);refine (hEB.out _ hb3').mono ?_;rintro e w4 ⟨g2,rfl,hownB,hb4⟩;have hb4' :Below w2.heap.size w2 w4:=ptw hb3' hb4;have k14:=(hb4'.cell (p:=⟨w.heap.size,0,none⟩) hl1).trans cc1;have k24:=(hb4'.cell (p:=⟨w.heap.size+1,0,none⟩) hl2).trans cc2)
       | (go_at_call 42;refine (HGF.out _ _ _ hown5 hb5').mono ?_;rintro e w6 ⟨n6,r6,v6,hM6,rfl,ho6,hb6⟩;have k16:=(hb6.cell (p:=⟨w.heap.size,0,none⟩) hl1).trans cc1;have k26:=(hb6.cell (p:=⟨w.heap.size+1,0,none⟩) hl2).trans cc2)
       | (revert hb4;intro hb4;refine step_append_row _ (by rfl) _ _ _ (by rfl) w2.heap.size 3 i0 _ 1 8 ((Seq.pu 37).trans Tryz.underlying37) hi hz0 hz1 hz2 rfl Nat.one_pos g1 (2*a.length) (2*a.length) ((turnsOf a).map (Value.int .i64)) (by rfl) (ownsRow_below hownA hb4) ⟨g2,0,none⟩ (2*b.length) (2*b.length) ((turnsOf b).map (Value.int .i64)) (by rfl) hNB.out (hownB.cells (g:=g2) rfl) hOB.out hMx.out hBy.out hb4'.size ?_;intro gg cap1 w5 hown5 hgrow;have hb5' :Below w2.heap.size w2 w5:=hb4'.grown hgrow hb4'.size (fun j hj=>by cases hj;exact ((ownsRow_below hownA hb4).lt g1 rfl).1);have k15:=(hb5'.cell (p:=⟨w.heap.size,0,none⟩) hl1).trans cc1;have k25:=(hb5'.cell (p:=⟨w.heap.size+1,0,none⟩) hl2).trans cc2))
   all_goals
     have HM6:Hid (MergeIs a b _ n6 r6):=hM6
     have hbF:Below w.heap.size w w6:=ptw HBel.out hb6
     clear hM6 hb6
     go_wp2
     go_ret2
     exact ⟨n6,r6,HM6.out,v6,rfl,ho6,hbF⟩
structure Bx2 (w W:World) (x:Value) (p:Int×Int×Int):Prop where
 c1:W.cell? ⟨w.heap.size,0,none⟩=some x
 p0:W.cell? ⟨w.heap.size+1,0,none⟩=some (.int .i64 p.1)
 p1:W.cell? ⟨w.heap.size+1,1,none⟩=some (.int .i64 p.2.1)
 p2:W.cell? ⟨w.heap.size+1,2,none⟩=some (.int .i64 p.2.2)
 bel:Below w.heap.size w W
 lt:w.heap.size+1<W.heap.size
theorem bx2_start (w:World) (x:Value) (p:Int×Int×Int) (t1 t2:TypeId):Bx2 w ((w.alloc (.cells #[x] t1)).alloc (.cells #[.int .i64 p.1,.int .i64 p.2.1,.int .i64 p.2.2] t2)) x p:=by
 refine ⟨?_,?_,?_,?_,ptw (pal _ _) (pal _ _),by simp⟩
 · rw [World.cell?_alloc_past _ _ _ (by simp),World.cell?_alloc_at _ _ _ _ rfl];rfl
 · rw [World.cell?_alloc_at _ _ _ _ (by simp)];rfl
 · rw [World.cell?_alloc_at _ _ _ _ (by simp)];rfl
 · rw [World.cell?_alloc_at _ _ _ _ (by simp)];rfl
theorem Bx2.below {w W W' :World} {x:Value} {p:Int×Int×Int} (h:Bx2 w W x p) (hb:Below W.heap.size W W'):Bx2 w W' x p:=by
 have l:=h.lt
 refine ⟨?_,?_,?_,?_,ptw h.bel hb,Nat.lt_of_lt_of_le l hb.size⟩
 · rw [hb.cell (p:=⟨w.heap.size,0,none⟩) (by show w.heap.size<_;omega)];exact h.c1
 · rw [hb.cell (p:=⟨w.heap.size+1,0,none⟩) (by show w.heap.size+1<_;omega)];exact h.p0
 · rw [hb.cell (p:=⟨w.heap.size+1,1,none⟩) (by show w.heap.size+1<_;omega)];exact h.p1
 · rw [hb.cell (p:=⟨w.heap.size+1,2,none⟩) (by show w.heap.size+1<_;omega)];exact h.p2
set_option maxRecDepth 100000 in
set_option maxHeartbeats 2000000 in
theorem put1_any (Bm Bp:Nat) (ao:Option Addr) (ca:Nat) (m:List (Int×Int×Int)) (p:Int×Int×Int) (t:Int) (w:World) (hA:PcAt w ao m) (la:m.length <= 200)
   (c1:w.cell? ⟨Bm,0,none⟩=some (.slice ao m.length ca)) (p0:w.cell? ⟨Bp,0,none⟩=some (.int .i64 p.1)) (p1:w.cell? ⟨Bp,1,none⟩=some (.int .i64 p.2.1)) (p2:w.cell? ⟨Bp,2,none⟩=some (.int .i64 p.2.2)):
   Calls Seq.prog 112 #[.int .i64 t,.pointer (some ⟨Bp,0,none⟩),.pointer (some ⟨Bm,0,none⟩)] w fun e w' =>(∃x,e= .returned (.tuple #[.int .i64 x,.bool (putF m p t).isSome]) /\ ∀y,putF m p t=some y -> x=y) /\ Below w.heap.size w w':=by
 have hhas:=fun W=>phas_any p.1 p.2.1 p.2.2 t W
 have l1:=World.block_lt_of_cell? w _ c1
 have l2:=World.block_lt_of_cell? w _ p2
 simp only at l1 l2
 have HC:Hid (∀W,Below w.heap.size w W -> W.cell? ⟨Bm,0,none⟩=some (.slice ao m.length ca) /\ W.cell? ⟨Bp,2,none⟩=some (.int .i64 p.2.2) /\ Calls Seq.prog 11 #[.slice ao m.length ca,.int .i64 t] W fun e w' =>e= .returned (.tuple #[.int .i64 ((tel m t).getD 0),.bool (tel m t).isSome]) /\ Below W.heap.size W w'):=fun W h=>
   ⟨(h.cell (p:=⟨Bm,0,none⟩) l1).trans c1,(h.cell (p:=⟨Bp,2,none⟩) l2).trans p2,PAt_any ao ca m t W (hA.below h) (by omega)⟩
 clear hA
 cases hp:inP p t with
 | true=>
   have e1:inB p.1 p.2.1 t=true:=hp
   have HF:Hid (putF m p t=some p.2.2):=by show _=_;unfold putF;rw [hp];rfl
   rw [HF.out]
   rw [e1] at hhas
   clear hp e1 HF
   go_enter Seq.func112,Tryz.ntmps112
   go_wp2_with fail
   refine (hhas _).mono ?_
   rintro e w1 ⟨rfl,hb1⟩
   have d2:=(HC.out w1 hb1).2.1
   go_wp2
   go_ret2
   exact ⟨⟨_,rfl,fun y h=>by cases h;rfl⟩,hb1⟩
 | false=>
   have e1:inB p.1 p.2.1 t=false:=hp
   have HF:Hid (putF m p t=tel m t):=by show _=_;unfold putF;rw [hp];rfl
   rw [HF.out]
   rw [e1] at hhas
   clear hp e1 HF
   have HX:Hid (∀y,tel m t=some y -> (tel m t).getD 0=y):=fun y h=>by rw [h];rfl
   generalize tel m t=q at HC HX ⊢
   go_enter Seq.func112,Tryz.ntmps112
   go_wp2_with fail
   refine (hhas _).mono ?_
   rintro e w1 ⟨rfl,hb1⟩
   have d1:=(HC.out w1 hb1).1
   have hAt:=(HC.out w1 hb1).2.2
   go_wp2_with fail
   refine hAt.mono ?_
   rintro e w2 ⟨rfl,hb2⟩
   have hbb:=ptw hb1 hb2
   clear hb1 hb2 hAt d1
   go_wp2
   go_ret2
   exact ⟨⟨_,rfl,HX.out⟩,hbb⟩
def PutIs (m:List (Int×Int×Int)) (p:Int×Int×Int) (n:Int) (r:List (Int×Int×Int)):Prop:=
 (¬mchk m=0 /\ n=mchk m /\ r=[]) \/ (mchk m=0 /\ ¬NearP p /\ n=5 /\ r=[]) \/ (mchk m=0 /\ NearP p /\ MapIs (turnsOf m++[p.1,p.2.1]) (putF m p) n r)
set_option maxRecDepth 100000 in
set_option maxHeartbeats 4000000 in
theorem Put_any (ao:Option Addr) (ca:Nat) (m:List (Int×Int×Int)) (p:Int×Int×Int) (w:World) (hA:PcAt w ao m):
   Calls Seq.prog 81 #[.slice ao m.length ca,.agg #[.int .i64 p.1,.int .i64 p.2.1,.int .i64 p.2.2]] w fun e w' =>∃n r,PutIs m p n r /\ Told3 w w' e n r:=by
 have h1:=fun W (h:Below w.heap.size w W)=>PCheck_any ao ca m W (hA.below h)
 have h2:=fun W=>pnear_any p.1 p.2.1 p.2.2 W
 have B0:=bx2_start w (.slice ao m.length ca) p 41 54
 by_cases e1:¬mchk m=0
 · obtain ⟨n,en,hn⟩:=mchk_bad e1
   have HC:Hid (PutIs m p n []):= .inl ⟨e1,en.symm,rfl⟩
   simp only [en] at h1
   clear e1 en h2
   rcases hn with rfl | rfl
   all_goals
     go_enter Seq.func81,Tryz.ntmps81
     go_wp2_with fail
     refine (h1 _ B0.bel).mono ?_
     rintro e w1 ⟨rfl,hb1⟩
     have g1:=ptw B0.bel hb1
     clear B0 hb1
     go_wp2
     go_ret2
     exact ⟨_,_,HC.out,_,rfl,nil3 _ _,g1⟩
 rw [Decidable.not_not] at e1
 simp only [e1] at h1
 obtain ⟨la,_,na⟩:=mchk_good e1
 have HE1:Hid (mchk m=0):=e1
 have HNA:Hid (∀p∈m,NearP p):=na
 clear e1 na
 by_cases e2:¬NearP p
 · have HC:Hid (PutIs m p 5 []):= .inr (.inl ⟨HE1.out,e2,rfl,rfl⟩)
   rw [show nr3 p.1 p.2.1 p.2.2=false from by rw [<- Bool.not_eq_true,nr3_iff];exact e2] at h2
   clear e2
   go_enter Seq.func81,Tryz.ntmps81
   go_wp2_with fail
   refine (h1 _ B0.bel).mono ?_
   rintro e w1 ⟨rfl,hb1⟩
   have B1:=B0.below hb1
   have d0:=B1.p0
   have d1:=B1.p1
   have d2:=B1.p2
   have g1:=B1.bel
   clear B0 hb1 B1
   go_wp2_with fail
   refine (h2 _).mono ?_
   rintro e w2 ⟨rfl,hb2⟩
   have g2:=ptw g1 hb2
   clear g1 hb2 d0 d1 d2
   go_wp2
   go_ret2
   exact ⟨_,_,HC.out,_,rfl,nil3 _ _,g2⟩
 rw [Classical.not_not] at e2
 rw [(nr3_iff _).2 e2] at h2
 have HE2:Hid (NearP p):=e2
 clear e2
 obtain ⟨i0,hi,hz0,hz1,hz2⟩:=info_parts Tryz.infoInt
 have hmf:∀(fn:Fn) (first cap:Array Value) (w:World),(Instr.makeFunc fn first cap).run Seq.prog w= .ok (.func fn first cap) w:=fun _ _ _ _=>rfl
 have HLN:Hid ((turnsOf m++[p.1,p.2.1]).length=2*m.length+2):=by show _=_;rw [List.length_append,turnsOf_length];rfl
 have hgo:Hid (∀w2,Bx2 w w2 (.slice ao m.length ca) p -> ∀W gg cap1,W.ownsRow w2.heap.size 3 1 (.slice (some ⟨gg,0,none⟩) (2*m.length+2) cap1) (2*m.length+2) ((turnsOf m).map (Value.int .i64)++[.int .i64 p.1,.int .i64 p.2.1]) -> Below w2.heap.size w2 W ->
     Calls Seq.prog 42 #[.slice (some ⟨gg,0,none⟩) (2*m.length+2) cap1,.func (.func 112) #[] #[.pointer (some ⟨w.heap.size+1,0,none⟩),.pointer (some ⟨w.heap.size,0,none⟩)]] W fun e w' =>∃n r v',PutIs m p n r /\ e= .returned (.tuple #[v',.int .i64 n]) /\ w'.ownsRow w.heap.size 54 3 v' r.length (enc3 r) /\ Below w2.heap.size w2 w'):=by
   intro w2 B2 W gg cap1 hv hbW
   have hp:∀t wq,Below w2.heap.size w2 wq -> Calls Seq.prog 112 (#[.int .i64 t]++#[.pointer (some ⟨w.heap.size+1,0,none⟩),.pointer (some ⟨w.heap.size,0,none⟩)]) wq fun e w' =>(∃x,e= .returned (.tuple #[.int .i64 x,.bool (putF m p t).isSome]) /\ ∀y,putF m p t=some y -> x=y) /\ Below wq.heap.size wq w':=by
     intro t wq hq
     have Bq:=B2.below hq
     exact put1_any w.heap.size (w.heap.size+1) ao ca m p t wq (hA.below Bq.bel) la Bq.c1 Bq.p0 Bq.p1 Bq.p2
   have hbl:=build_own 112 _ (putF m p) (enters_of Seq.func112 (by kernel_rfl) rfl) w2 W hbW hp gg cap1 (turnsOf m++[p.1,p.2.1]) (by rw [HLN.out,List.map_append];exact hv) (by rw [HLN.out];omega)
   rw [HLN.out] at hbl
   refine hbl.mono ?_
   rintro e w' ⟨n,r,v',hM,rfl,ho,hb⟩
   exact ⟨n,r,v',.inr (.inr ⟨HE1.out,HE2.out,hM⟩),rfl,ownsRow_base ho B2.bel.size,hb⟩
 have HPA:Hid (∀W,Below w.heap.size w W -> PcAt W ao m):=fun W h=>hA.below h
 clear hA
 go_enter Seq.func81,Tryz.ntmps81
 go_wp2_with fail
 refine (h1 _ B0.bel).mono ?_
 rintro e w1 ⟨rfl,hb1⟩
 have B1:=B0.below hb1
 have d0:=B1.p0
 have d1:=B1.p1
 have d2:=B1.p2
 clear B0 hb1
 go_wp2_with fail
 refine (h2 _).mono ?_
 rintro e w2 ⟨rfl,hb2⟩
 have B2:=B1.below hb2
 clear hb2 B1 h1 h2 d0 d1 d2
 have cc1:=B2.c1
 have d0:=B2.p0
 have d1:=B2.p1
 have HL:=B2.lt
 have HBel:Hid (Below w.heap.size w w2):=B2.bel
 have hEA:Hid (∀W,Below w2.heap.size w2 W -> Calls Seq.prog 43 #[.slice ao m.length ca] W fun e w' =>∃g,e= .returned (.slice (some ⟨g,0,none⟩) (2*m.length) (2*m.length)) /\ w'.ownsRow w2.heap.size 3 1 (.slice (some ⟨g,0,none⟩) (2*m.length) (2*m.length)) (2*m.length) ((turnsOf m).map (Value.int .i64)) /\ Below W.heap.size W w'):=fun W h=>
   (pbounds_any ao ca m W (HPA.out W (ptw B2.bel h)) la).mono fun e w' ⟨g,he,ho,hb⟩=>⟨g,he,ownsRow_base ho h.size,hb⟩
 have hl1:w.heap.size<w2.heap.size:=by omega
 have HGF:=hide3 (hgo.out w2 B2)
 clear B2 hgo HPA
 go_wp2_with fail
 go_region_held3 (fun w' => w'.cell? ⟨w.heap.size, 0, none⟩ = some (.slice ao m.length ca) /\ w'.cell? ⟨w.heap.size + 1, 0, none⟩ = some (.int .i64 p.1) /\ w'.cell? ⟨w.heap.size + 1, 1, none⟩ = some (.int .i64 p.2.1))
   (first | go_keep | (refine ⟨?_,?_,?_⟩<;>assumption))
   (first
     | (go_at_call 43;refine (hEA.out _ (by first | exact (Below.refl _ _).drew | exact ((Below.refl _ _).alloc (Nat.le_refl _) _).drew)).mono ?_;rintro e w3 ⟨g1,rfl,hownA,hb3⟩;have hb3' :Below w2.heap.size w2 w3:=(by first | exact ptw (Below.refl _ _).drew hb3 | exact ptw ((pal w2 _).drew) hb3);have k1:=(hb3'.cell (p:=⟨w.heap.size,0,none⟩) hl1).trans cc1;have k2:=(hb3'.cell (p:=⟨w.heap.size+1,0,none⟩) HL).trans d0;have k3:=(hb3'.cell (p:=⟨w.heap.size+1,1,none⟩) HL).trans d1)
     | (go_at_call 42;refine (HGF.out _ _ _ hown5 hb5').mono ?_;rintro e w6 ⟨n6,r6,v6,hM6,rfl,ho6,hb6⟩;have k16:=(hb6.cell (p:=⟨w.heap.size,0,none⟩) hl1).trans cc1;have k26:=(hb6.cell (p:=⟨w.heap.size+1,0,none⟩) HL).trans d0;have k36:=(hb6.cell (p:=⟨w.heap.size+1,1,none⟩) HL).trans d1)
     | (revert hb3;intro hb3;refine step_append_row _ (by rfl) _ _ _ (by rfl) w2.heap.size 3 i0 _ 1 8 ((Seq.pu 37).trans Tryz.underlying37) hi hz0 hz1 hz2 rfl Nat.one_pos g1 (2*m.length) (2*m.length) ((turnsOf m).map (Value.int .i64)) (by rfl) (World.ownsRow.alloc (w:=w3) hownA _) ⟨w3.heap.size,0,none⟩ 2 2 [.int .i64 p.1,.int .i64 p.2.1] (by rfl) (by rfl) (World.news_of_block (cs:=#[.int .i64 p.1,.int .i64 p.2.1]) (t:=3) (fr:=(0,0)) (heap_alloc_new w3 _)) (by simp [Value.oneCell']) (by unfold maxLen;omega) (by omega) (by have:=hb3'.size;simp;omega) ?_;intro gg cap1 w5 hown5 hgrow;have hb5' :Below w2.heap.size w2 w5:=(hb3'.alloc hb3'.size _).grown hgrow (by have:=hb3'.size;simp;omega) (fun j hj=>by cases hj;exact (hownA.lt g1 rfl).1);have k15:=(hb5'.cell (p:=⟨w.heap.size,0,none⟩) hl1).trans cc1;have k25:=(hb5'.cell (p:=⟨w.heap.size+1,0,none⟩) HL).trans d0;have k35:=(hb5'.cell (p:=⟨w.heap.size+1,1,none⟩) HL).trans d1)
     | (revert hb3;intro hb3;refine step_append_row _ (by rfl) _ _ _ (by rfl) w2.heap.size 3 i0 _ 1 8 ((Seq.pu 37).trans Tryz.underlying37) hi hz0 hz1 hz2 rfl Nat.one_pos g1 (2*m.length) (2*m.length) ((turnsOf m).map (Value.int .i64)) (by rfl) hownA ⟨w2.heap.size,0,none⟩ 2 2 [.int .i64 p.1,.int .i64 p.2.1] (by rfl) (by rfl) (World.news_of_block (cs:=#[.int .i64 p.1,.int .i64 p.2.1]) (t:=3) (fr:=(0,0)) ((hb3.block w2.heap.size (by simp)).trans (heap_alloc_new w2 _))) (by simp [Value.oneCell']) (by unfold maxLen;omega) (by omega) hb3'.size ?_;intro gg cap1 w5 hown5 hgrow;have hb5' :Below w2.heap.size w2 w5:=hb3'.grown hgrow hb3'.size (fun j hj=>by cases hj;exact (hownA.lt g1 rfl).1);have k15:=(hb5'.cell (p:=⟨w.heap.size,0,none⟩) hl1).trans cc1;have k25:=(hb5'.cell (p:=⟨w.heap.size+1,0,none⟩) HL).trans d0;have k35:=(hb5'.cell (p:=⟨w.heap.size+1,1,none⟩) HL).trans d1))
 all_goals
   have HM6:Hid (PutIs m p n6 r6):=hM6
   have hbF:Below w.heap.size w w6:=ptw HBel.out hb6
   clear hM6 hb6
   go_wp2
   go_ret2
   exact ⟨n6,r6,HM6.out,v6,rfl,ho6,hbF⟩
def MsAt (w:World) (ao:Option Addr) (n:Nat) (m:Nat -> List P3):Prop:=
 n=0 \/ ∃b off,ao=some ⟨b,off,none⟩ /\ b<w.heap.size /\ ∀v,v<n -> ∃a c,w.cell? ⟨b,off+v,none⟩=some (.slice a (m v).length c) /\ PcAt w a (m v)
theorem MsAt.below {w w' :World} {ao:Option Addr} {n:Nat} {m:Nat -> List P3} (h:MsAt w ao n m) (hb:Below w.heap.size w w'):MsAt w' ao n m:=by
 rcases h with h | ⟨b,off,rfl,hlt,hc⟩
 · exact .inl h
 · refine .inr ⟨b,off,rfl,Nat.lt_of_lt_of_le hlt hb.size,fun v hv=> ?_⟩
   obtain ⟨a,c,h1,h2⟩:=hc v hv
   exact ⟨a,c,by rw [hb.cell (p:=⟨b,off+v,none⟩) hlt];exact h1,h2.below hb⟩
theorem MsAt.at1 {w:World} {ao:Option Addr} {n:Nat} {m:Nat -> List P3} (h:MsAt w ao n m) {v:Nat} (hv:v<n):∃b off a c,ao=some ⟨b,off,none⟩ /\ b<w.heap.size /\ w.cell? ⟨b,off+v,none⟩=some (.slice a (m v).length c) /\ PcAt w a (m v):=by
 rcases h with h | ⟨b,off,rfl,hlt,hc⟩
 · omega
 · obtain ⟨a,c,h1,h2⟩:=hc v hv
   exact ⟨b,off,a,c,rfl,hlt,h1,h2⟩
theorem AM.read {W:World} {base go n:Nat} {val:Nat -> Value} {pcs:Nat -> List P3} (A:AM W base go n val pcs):MsAt W (some ⟨go,0,none⟩) n pcs:=by
 refine .inr ⟨go,0,rfl,(World.ownsRow.lt A.own go rfl).2,fun v hv=> ?_⟩
 obtain ⟨a,c,h1,h2⟩:=pcAt_of_owns (A.inn v hv)
 exact ⟨a,c,by rw [Nat.zero_add,A.out hv,h1],h2⟩
theorem AM.set {W W1:World} {base go n:Nat} {val:Nat -> Value} {pcs:Nat -> List P3} (A:AM W base go n val pcs) {v:Nat} (hv:v<n) (hb:Below W.heap.size W W1) {v' :Value} {r:List P3} (hbase:base <= W.heap.size) (h5:W1.ownsRow W.heap.size 54 3 v' r.length (enc3 r)):AM (W1.setCell ⟨go,v,none⟩ v') base go n (updF val v v') (updF pcs v r):=by
 have A1:=A.below hb
 have h6:=owns_base2 h5 hbase
 have o2:=(World.ownsRow.stored A1.own v v').1
 rw [map_updF] at o2
 have hgo:v'.ownBlock≠some go:=by
   rcases owns_apart h6 A1.own (by decide) with e | e
   · rw [e];intro h;cases h
   · exact e
 refine ⟨o2,fun i hi=> ?_,fun i i' hi hi' hne=> ?_⟩
 · by_cases e:i=v
   · subst e
     rw [updF_same,updF_same]
     exact ownsRow_setBox h6 hgo
   · rw [updF_far _ _ e,updF_far _ _ e]
     exact ownsRow_setBox (A1.inn i hi) (A1.far hi)
 · by_cases e:i=v
   · subst e
     rw [updF_same,updF_far _ _ (fun h=>hne h.symm)]
     cases hq:v'.ownBlock with
     | none=>exact .inl rfl
     | some q=>
       right
       intro h
       have h2:=((A.inn i' hi').lt q h.symm).2
       have h3:=(h5.lt q hq).1
       omega
   · rw [updF_far _ _ e]
     by_cases e' :i' =v
     · subst e'
       rw [updF_same]
       cases hq:(val i).ownBlock with
       | none=>exact .inl rfl
       | some q=>
         right
         intro h
         have h2:=((A.inn i hi).lt q hq).2
         have h3:=(h5.lt q h.symm).1
         omega
     · rw [updF_far _ _ e'];exact A.ap i i' hi hi' hne
theorem inR3_no {p:Int} (h:inR p 1 3=false):(p !=1)=true /\ (p !=2)=true /\ (p !=3)=true:=by
 have:¬(1 <= p /\ p <= 3):=fun h2=>by rw [(inR_iff p 1 3).2 h2] at h;cases h
 simp;omega
set_option maxRecDepth 100000 in
set_option maxHeartbeats 2000000 in
theorem bsCheck_any (g:Gr) (la ea:Option Addr) (lc ec:Nat) (p v:Int) (w:World) (hG:GAt w la ea g):
   Calls Seq.prog 48 #[.agg #[.int .i64 g.hor,.slice la g.lives.length lc,.slice ea g.edges.length ec],.int .i64 p,.int .i64 v] w fun r w' =>r= .returned (.int .i64 (askE g p v)) /\ Below w.heap.size w w':=by
 have B0:=gbox_start w g la ea lc ec 25
 have h1:=gCheck_any g la ea lc ec _ (hG.below B0.bel)
 by_cases e1:gChk g=0
 · have HP:Hid (askE g p v=if inR p 1 3=true then if p=3 then 0 else if inR v 0 ((g.lives.length:Int)- 1)=true then 0 else 4 else 1):=by show _=_;unfold askE;rw [if_pos e1]
   have hvx:=fun W=>gHasV_any g.hor la ea g.lives.length lc g.edges.length ec v W (gChk_right e1).lvs
   rw [e1] at h1
   clear hG e1
   cases q1:inR p 1 3 with
   | false=>
     rw [q1] at HP
     obtain ⟨d1,d2,d3⟩:=inR3_no q1
     clear q1
     go_enter Seq.func48,Tryz.ntmps48
     go_wp2_with fail
     refine h1.mono ?_
     rintro e w1 ⟨rfl,hb1⟩
     have hbF:=(B0.below hb1).bel
     clear h1 hb1 B0
     go_wp2
     go_ret
     exact ⟨ret_int HP.out.symm,by assumption⟩
   | true=>
     rw [q1] at HP
     have hp3:=(inR_iff p 1 3).1 q1
     clear q1
     by_cases h3:p=3
     · have HP3:Hid (askE g p v=0):=by show _=_;rw [HP.out,if_pos rfl,if_pos h3]
       subst h3
       clear HP hp3
       go_enter Seq.func48,Tryz.ntmps48
       go_wp2_with fail
       refine h1.mono ?_
       rintro e w1 ⟨rfl,hb1⟩
       have hbF:=(B0.below hb1).bel
       clear h1 hb1 B0
       go_wp2
       go_ret
       exact ⟨ret_int HP3.out.symm,by assumption⟩
     · have HP3:Hid (askE g p v=if inR v 0 ((g.lives.length:Int)- 1)=true then 0 else 4):=by show _=_;rw [HP.out,if_pos rfl,if_neg h3]
       clear HP
       have hp2:p=1 \/ p=2:=by omega
       clear h3 hp3
       cases hV:inR v 0 ((g.lives.length:Int)- 1)<;>rw [hV] at HP3 hvx
       all_goals
         clear hV
         rcases hp2 with rfl | rfl
         all_goals
           go_enter Seq.func48,Tryz.ntmps48
           go_wp2_with fail
           refine h1.mono ?_
           rintro e w1 ⟨rfl,hb1⟩
           have B1:=B0.below hb1
           have cc0:=B1.c0
           have cc1:=B1.c1
           have cc2:=B1.c2
           clear h1 hb1 B0
           go_wp2_with fail
           refine (hvx _).mono ?_
           rintro e w2 ⟨rfl,hb2⟩
           have hbF:=(B1.below hb2).bel
           clear hvx hb2 B1 cc0 cc1 cc2
           go_wp2
           go_ret
           exact ⟨ret_int HP3.out.symm,by assumption⟩
 · have HP:Hid (askE g p v=gChk g):=by show _=_;unfold askE;rw [if_neg e1]
   have d1:(gChk g !=0)=true:=by simpa using e1
   clear hG e1
   generalize gChk g=z at*
   go_enter Seq.func48,Tryz.ntmps48
   go_wp2_with fail
   refine h1.mono ?_
   rintro e w1 ⟨rfl,hb1⟩
   have hbF:=(B0.below hb1).bel
   clear h1 hb1 B0
   go_wp2
   go_ret
   exact ⟨ret_int HP.out.symm,by assumption⟩
def noneB (n:Nat) (m:Nat -> List P3):Bool:=decide (∀v,v<n -> m v=[])
set_option maxRecDepth 100000 in
set_option maxHeartbeats 2000000 in
theorem bsEmpty_any (ao:Option Addr) (n cap:Nat) (m:Nat -> List P3) (w:World) (hM:MsAt w ao n m) (hn:n <= 12):
   Calls Seq.prog 55 #[.slice ao n cap] w fun r w' =>r= .returned (.bool (noneB n m)) /\ Below w.heap.size w w':=by
 go_enter Seq.func55,Tryz.ntmps55
 go_wp2
 go_loopw [7] (fun i wr=>∃k:Nat,k <= n /\ i= .int .i64 k /\ (∀v,v<k -> m v=[]) /\ Below w.heap.size w wr) (fun i _=>n-(intOf i).toNat)
 case atStart=>exact ⟨0,Nat.zero_le _,rfl,fun v hv=>by omega,Below.refl _ _⟩
 case round=>
   obtain ⟨k,hk,rfl,hI,hb⟩:=hrel
   have HI:=hideg hI
   have HB:=hideg hb
   clear hI
   by_cases hlt:k<n
   · obtain ⟨b,off,a,c,rfl,hbl,c0,hp⟩:=(hM.below hb).at1 hlt
     have hk2:(k:Int)<(n:Int):=by omega
     clear hb hp
     by_cases e:(m k).length=0
     · have HS:Hid (∀v,v<k+1 -> m v=[]):=by
         intro v hv
         by_cases ev:v=k
         · subst ev;exact List.eq_nil_of_length_eq_zero e
         · exact HI.out v (by omega)
       rw [e] at c0
       clear e
       go_wp2
       go_roundw
       case rel=>exact ⟨k+1,by omega,by go_num,HS.out,HB.out⟩
       case measure=>simp [intOf];omega
     · have HC:Hid (noneB n m=false):=by
         show _=_
         unfold noneB
         rw [decide_eq_false_iff_not]
         intro h
         rw [h k hlt] at e
         exact e rfl
       have hpos:(0:Int)<((m k).length:Int):=by omega
       clear e
       generalize (m k).length=L at*
       go_wp2
       go_ret
       exact ⟨ret_bool HC.out.symm,HB.out⟩
   · have hkn:k=n:=by omega
     subst hkn
     have HC:Hid (noneB k m=true):=by
       show _=_
       unfold noneB
       rw [decide_eq_true_eq]
       exact HI.out
     clear hb
     go_wp2
     go_ret
     exact ⟨ret_bool HC.out.symm,HB.out⟩
def mixO (how:Int) (o:Option Int) (v:Int):Option Int:=
 match o with
 | none=>some v
 | some x=>some (both how x v)
def mix (how:Int) (l:List (Int×Int×Int)) (t:Int):Option Int:=l.foldl (fun o p=>if inP p t then mixO how o p.2.2 else o) none
theorem mix_snoc (how:Int) (l:List (Int×Int×Int)) (p:Int×Int×Int) (t:Int):mix how (l++[p]) t=if inP p t then mixO how (mix how l t) p.2.2 else mix how l t:=by
 unfold mix;rw [List.foldl_append];rfl
theorem mix_take {how:Int} {l:List (Int×Int×Int)} {k:Nat} {t:Int} (hk:k<l.length):mix how (l.take (k+1)) t=if inP l[k] t then mixO how (mix how (l.take k) t) l[k].2.2 else mix how (l.take k) t:=by
 rw [take_succ_get l k hk,mix_snoc]
theorem mix_bound {how:Int} {l:List (Int×Int×Int)} {t x:Int} (h:∀p∈l,nearB p.2.2) (hk:l.length <= 200) (hx:mix how l t=some x): -200000000000 <= x /\ x <= 200000000000:=by
 have key:∀k,k <= l.length -> ∀x,mix how (l.take k) t=some x -> -(1000000000*(k:Int)) <= x /\ x <= 1000000000*(k:Int):=by
   intro k
   induction k with
   | zero=>intro _ x hx;simp [mix] at hx
   | succ k ih=>
     intro hk x hx
     have hv:=h l[k] (List.getElem_mem (by omega))
     unfold nearB at hv
     rw [mix_take (by omega)] at hx
     split at hx
     · cases hm:mix how (l.take k) t with
       | none=>
         rw [hm] at hx
         simp only [mixO,Option.some.injEq] at hx
         subst hx;omega
       | some y=>
         have:=ih (by omega) y hm
         rw [hm] at hx
         simp only [mixO,Option.some.injEq] at hx
         subst hx
         unfold both
         split
         · omega
         · split<;>omega
     · have:=ih (by omega) x hx;omega
 have:=key l.length (Nat.le_refl _) x (by rw [List.take_length];exact hx)
 omega
theorem mix_bound_take {how:Int} {l:List (Int×Int×Int)} {t x:Int} {k:Nat} (h:∀p∈l,nearB p.2.2) (hk:l.length <= 200) (hx:mix how (l.take k) t=some x): -200000000000 <= x /\ x <= 200000000000:=
 mix_bound (l:=l.take k) (fun p hp=>h p (List.mem_of_mem_take hp)) (by rw [List.length_take];omega) hx
theorem mixO_some (how:Int) (o:Option Int) (v:Int):(mixO how o v).isSome=true:=by cases o<;>rfl
theorem mix_cons_none {how:Int} {l:List (Int×Int×Int)} {t:Int}:mix how l t=none↔∀p∈l,inP p t=false:=by
 have key:∀k,k <= l.length -> (mix how (l.take k) t=none↔∀p∈l.take k,inP p t=false):=by
   intro k
   induction k with
   | zero=>simp [mix]
   | succ k ih=>
     intro hk
     rw [mix_take (by omega),take_succ_get l k (by omega)]
     have ih:=ih (by omega)
     cases hp:inP l[k] t with
     | true=>
       simp only [if_pos]
       constructor
       · intro h;have:=mixO_some how (mix how (l.take k) t) l[k].2.2;rw [h] at this;cases this
       · intro h;have:=h l[k] (List.mem_append.2 (.inr (List.mem_singleton.2 rfl)));rw [hp] at this;cases this
     | false=>
       simp only [Bool.false_eq_true,if_false]
       rw [ih]
       constructor
       · intro h p hm
         rw [List.mem_append] at hm
         rcases hm with hm | hm
         · exact h p hm
         · simp only [List.mem_singleton] at hm;subst hm;exact hp
       · intro h p hm;exact h p (by rw [List.mem_append];exact .inl hm)
 have:=key l.length (Nat.le_refl _)
 rwa [List.take_length] at this
theorem foldl_same {α β:Type} {f g:α -> β -> α} {l:List β} {a:α} (h:∀x∈l,∀a,f a x=g a x):l.foldl f a=l.foldl g a:=by
 induction l generalizing a with
 | nil=>rfl
 | cons x l ih=>rw [List.foldl_cons,List.foldl_cons,h x (by simp),ih fun y hy=>h y (by simp [hy])]
theorem mix_congr {how:Int} {l:List (Int×Int×Int)} {s t:Int} (h:∀p∈l,inP p s=inP p t):mix how l s=mix how l t:=by
 unfold mix;exact foldl_same fun p hp a=>by rw [h p hp]
theorem mix_turns {how:Int} {l:List (Int×Int×Int)} {S:List Int} (h1:∀x∈turnsOf l,x∈S):MTurns S (mix how l):=by
 refine ⟨fun s t hst h=>mix_congr fun p hp=>inP_same hst (h _ (h1 _ (mem_turnsOf hp).1)) (h _ (h1 _ (mem_turnsOf hp).2)),fun t h=> ?_,fun t h=> ?_⟩
 · exact mix_cons_none.2 fun p hp=>inP_low (h _ (h1 _ (mem_turnsOf hp).1))
 · exact mix_cons_none.2 fun p hp=>inP_high (h _ (h1 _ (mem_turnsOf hp).2))
def GoodM (p:Int×Int×Int):Prop:=NearP p /\ p.1<p.2.1
def goodMDec (l:List (Int×Int×Int)):Decidable (∀p∈l,GoodM p):=by unfold GoodM NearP nearB;infer_instance
def lchk (l:List (Int×Int×Int)):Int:=if 200<l.length then 2 else @ite Int (∀p∈l,GoodM p) (goodMDec l) 0 5
theorem lchk_large {l:List (Int×Int×Int)} (h:200<l.length):lchk l=2:=by simp [lchk,h]
theorem lchk_ok {l:List (Int×Int×Int)} (h:l.length <= 200) (hn:∀p∈l,GoodM p):lchk l=0:=by
 unfold lchk;rw [if_neg (by omega),if_pos hn]
theorem lchk_no {l:List (Int×Int×Int)} {p:Int×Int×Int} (h:l.length <= 200) (hp:p∈l) (hn:¬GoodM p):lchk l=5:=by
 unfold lchk;rw [if_neg (by omega),if_neg (fun hh=>hn (hh p hp))]
theorem lchk_cases (l:List (Int×Int×Int)):(lchk l=2 \/ lchk l=5) \/ (lchk l=0 /\ l.length <= 200 /\ ∀p∈l,GoodM p):=by
 unfold lchk
 by_cases h:200<l.length
 · exact .inl (.inl (by rw [if_pos h]))
 · rw [if_neg h]
   by_cases hn:∀p∈l,GoodM p
   · exact .inr ⟨by rw [if_pos hn],by omega,hn⟩
   · exact .inl (.inr (by rw [if_neg hn]))
abbrev Cl:=Int×Int×Int×Bool×Int
def cellAt (m l:List (Int×Int×Int)) (how:Int) (s t:Int):List Cl:=
 match mix how l s with
 | none=>[]
 | some v=>[(s,t,(tel m s).getD 0,(tel m s).isSome,v)]
def cellsTo (m l:List (Int×Int×Int)) (how:Int) (S:List Int):Nat -> List Cl
 | 0=>[]
 | i+1=>cellsTo m l how S i++cellAt m l how (S.getD i 0) (S.getD (i+1) 0)
theorem cellAt_len (m l:List (Int×Int×Int)) (how s t:Int):(cellAt m l how s t).length <= 1:=by unfold cellAt;split<;>simp
theorem cellsTo_len (m l:List (Int×Int×Int)) (how:Int) (S:List Int) (i:Nat):(cellsTo m l how S i).length <= i:=by
 induction i with
 | zero=>simp [cellsTo]
 | succ i ih=>have:=cellAt_len m l how (S.getD i 0) (S.getD (i+1) 0);rw [cellsTo,List.length_append];omega
theorem cellsTo_no {m l:List (Int×Int×Int)} {how:Int} {S:List Int} {i:Nat} (hi:i<S.length) (h:mix how l S[i]=none):cellsTo m l how S (i+1)=cellsTo m l how S i:=by
 rw [cellsTo,cellAt,getD_get' hi,h,List.append_nil]
theorem cellsTo_yes {m l:List (Int×Int×Int)} {how:Int} {S:List Int} {i:Nat} {v:Int} (hi:i+1<S.length) (h:mix how l S[i]=some v):cellsTo m l how S (i+1)=cellsTo m l how S i++[(S[i],S[i+1],(tel m S[i]).getD 0,(tel m S[i]).isSome,v)]:=by
 rw [cellsTo,cellAt,getD_get' (by omega:i<S.length),getD_get' hi,h]
theorem cellsTo_mem {m l:List (Int×Int×Int)} {how:Int} {S:List Int} {i:Nat} {c:Cl} (hi:i+1 <= S.length \/ i=0) (h:c∈cellsTo m l how S i):∃j,∃hj:j+1<S.length,j<i /\ ∃v,mix how l S[j]=some v /\ c=(S[j],S[j+1],(tel m S[j]).getD 0,(tel m S[j]).isSome,v):=by
 induction i with
 | zero=>simp [cellsTo] at h
 | succ i ih=>
   have hi' :i+1<S.length:=by omega
   cases hm:mix how l S[i] with
   | none=>
     rw [cellsTo_no (by omega) hm] at h
     obtain ⟨j,hj,h1,h2⟩:=ih (by omega) h
     exact ⟨j,hj,by omega,h2⟩
   | some v=>
     rw [cellsTo_yes hi' hm,List.mem_append] at h
     rcases h with h | h
     · obtain ⟨j,hj,h1,h2⟩:=ih (by omega) h
       exact ⟨j,hj,by omega,h2⟩
     · simp only [List.mem_singleton] at h
       exact ⟨i,hi',by omega,v,hm,h⟩
def CellsIs (m l:List (Int×Int×Int)) (how:Int) (n:Int) (r:List Cl):Prop:=
 ∃S,Ordered (turnsOf m++turnsOf l) S /\ ((¬(∀c∈cellsTo m l how S (S.length- 1),nearB c.2.2.2.2) /\ n=5 /\ r=[]) \/ ((∀c∈cellsTo m l how S (S.length- 1),nearB c.2.2.2.2) /\ 200<(cellsTo m l how S (S.length- 1)).length /\ n=2 /\ r=[]) \/ ((∀c∈cellsTo m l how S (S.length- 1),nearB c.2.2.2.2) /\ (cellsTo m l how S (S.length- 1)).length <= 200 /\ n=0 /\ r=cellsTo m l how S (S.length- 1)))
def who (l:List (Int×Int×Int)) (t:Int) (k:Nat):List Nat:=(List.range k).filter fun i=>inP (l.getD i (0,0,0)) t
theorem hideW {p:Prop} (h:p):Hid p:=h
theorem goodM_take_succ {m:List (Int×Int×Int)} {k:Nat} (hk:k<m.length) (h:∀q∈m.take k,GoodM q) (h1:GoodM m[k]):∀q∈m.take (k+1),GoodM q:=by
 intro q hq
 rw [take_succ_get m k hk,List.mem_append,List.mem_singleton] at hq
 rcases hq with hq | rfl
 · exact h q hq
 · exact h1
set_option maxRecDepth 100000 in
set_option maxHeartbeats 2000000 in
theorem wcheck_any (ao:Option Addr) (cap:Nat) (l:List (Int×Int×Int)) (w:World) (hl:PcAt w ao l):
   Calls Seq.prog 126 #[.slice ao l.length cap] w fun e w' =>e= .returned (.int .i64 (lchk l)) /\ Below w.heap.size w w':=by
 by_cases h2:200<l.length
 · have HC:Hid (lchk l=2):=lchk_large h2
   go_enter Seq.func126,Tryz.ntmps126
   go_wp2
   go_ret
   exact ⟨ret_int HC.out.symm,Below.refl _ _⟩
 · have h3:l.length <= 200:=by omega
   go_enter Seq.func126,Tryz.ntmps126
   go_wp2
   go_loopw [10] (fun i wr=>∃k:Nat,k <= l.length /\ i= .int .i64 k /\ (∀q∈l.take k,GoodM q) /\ Below w.heap.size w wr) (fun i _=>l.length-(intOf i).toNat)
   case atStart=>exact ⟨0,Nat.zero_le _,rfl,fun q hq=>by simp at hq,Below.refl _ _⟩
   case round=>
     obtain ⟨k,hk,rfl,hn,hb⟩:=hrel
     have HN:=hideW hn
     clear hn
     by_cases hlt:k<l.length
     · rcases hl.below hb with h0 | ⟨b,off,rfl,hbw,hc⟩
       · subst h0;simp at hlt
       obtain ⟨c0,c1,c2⟩:=PcAt.get hlt hc
       have HB:=hideW (fun o o' =>ptw (ptw hb (pal wr o)) (pal (wr.alloc o) o'))
       clear hc hl hb
       by_cases n1:NearP l[k]
       · have e1:(nrB l[k].1&&(nrB l[k].2.1&&nrB l[k].2.2))=true:=(nr3_iff l[k]).2 n1
         by_cases g1:l[k].2.1 <= l[k].1
         · have HC:Hid (lchk l=5):=lchk_no h3 (List.getElem_mem hlt) (fun h=>by have:=h.2;omega)
           have d1:decide (l[k].2.1 <= l[k].1)=true:=by simpa using g1
           clear n1 g1
           go_wp2_with fail
           refine (Near_three (wr.heap.size+1) l[k].1 l[k].2.1 l[k].2.2 _ (by simp) (by simp) (by simp) (by simp)).mono ?_
           rintro e w1 ⟨rfl,rfl⟩
           rw [e1]
           go_wp2
           go_ret
           exact ⟨ret_int HC.out.symm,HB.out _ _⟩
         · have HS:=hideW (goodM_take_succ hlt HN.out ⟨n1,by omega⟩)
           have d1:decide (l[k].2.1 <= l[k].1)=false:=by simpa using g1
           clear n1 g1
           go_wp2_with fail
           refine (Near_three (wr.heap.size+1) l[k].1 l[k].2.1 l[k].2.2 _ (by simp) (by simp) (by simp) (by simp)).mono ?_
           rintro e w1 ⟨rfl,rfl⟩
           rw [e1]
           go_wp2
           go_roundw
           case rel=>exact ⟨k+1,by omega,by go_num,HS.out,HB.out _ _⟩
           case measure=>simp [intOf];omega
       · have HC:Hid (lchk l=5):=lchk_no h3 (List.getElem_mem hlt) (fun h=>n1 h.1)
         have e1:(nrB l[k].1&&(nrB l[k].2.1&&nrB l[k].2.2))=false:=by
           have:=nr3_iff l[k]
           unfold nr3 at this
           rw [<- Bool.not_eq_true,this];exact n1
         clear n1
         go_wp2_with fail
         refine (Near_three (wr.heap.size+1) l[k].1 l[k].2.1 l[k].2.2 _ (by simp) (by simp) (by simp) (by simp)).mono ?_
         rintro e w1 ⟨rfl,rfl⟩
         rw [e1]
         go_wp2
         go_ret
         exact ⟨ret_int HC.out.symm,HB.out _ _⟩
     · have hkl:k=l.length:=by omega
       have HC:Hid (lchk l=0):=lchk_ok h3 (by have:=HN.out;rwa [hkl,List.take_length] at this)
       subst hkl
       go_wp2
       go_ret
       exact ⟨ret_int HC.out.symm,hb⟩
def cbChk (l:List (Int×Int×Int)) (how:Int):Int:=if lchk l=0 then if isHow how=true then 0 else 1 else lchk l
theorem cbChk_bad {l:List (Int×Int×Int)} {how:Int} (h:¬cbChk l how=0):∃n,cbChk l how=n /\ (n=1 \/ n=2 \/ n=5):=by
 unfold cbChk at h ⊢
 rcases lchk_cases l with (e | e) | ⟨e,_⟩
 · rw [e];exact ⟨2,rfl,.inr (.inl rfl)⟩
 · rw [e];exact ⟨5,rfl,.inr (.inr rfl)⟩
 · rw [e] at h ⊢
   by_cases hh:isHow how=true
   · simp [hh] at h
   · exact ⟨1,by simp [hh],.inl rfl⟩
theorem cbChk_good {l:List (Int×Int×Int)} {how:Int} (h:cbChk l how=0):l.length <= 200 /\ (∀p∈l,GoodM p) /\ (how=1 \/ how=2 \/ how=3) /\ lchk l=0:=by
 unfold cbChk at h
 rcases lchk_cases l with (e | e) | ⟨e,h1,h2⟩
 · rw [e] at h;simp at h
 · rw [e] at h;simp at h
 · rw [e] at h
   by_cases hh:isHow how=true
   · unfold isHow at hh;rw [decide_eq_true_eq] at hh;exact ⟨h1,h2,hh,e⟩
   · simp [hh] at h
set_option maxRecDepth 100000 in
theorem checkBoth_any (ao:Option Addr) (cap:Nat) (l:List (Int×Int×Int)) (how:Int) (w:World) (hl:PcAt w ao l):
   Calls Seq.prog 109 #[.slice ao l.length cap,.int .i64 how] w fun e w' =>e= .returned (.int .i64 (cbChk l how)) /\ Below w.heap.size w w':=by
 have hck:=wcheck_any ao cap l w hl
 have hJ:=fun W=>joins_any how W
 clear hl
 rcases lchk_cases l with (e | e) | ⟨e,_⟩
 · have HC:Hid (cbChk l how=2):=by show _=_;unfold cbChk;rw [e];rfl
   rw [e] at hck
   clear e hJ
   go_enter Seq.func109,Tryz.ntmps109
   go_wp2_with fail
   refine hck.mono ?_
   rintro e w1 ⟨rfl,hb1⟩
   go_wp2
   go_ret
   exact ⟨ret_int HC.out.symm,hb1⟩
 · have HC:Hid (cbChk l how=5):=by show _=_;unfold cbChk;rw [e];rfl
   rw [e] at hck
   clear e hJ
   go_enter Seq.func109,Tryz.ntmps109
   go_wp2_with fail
   refine hck.mono ?_
   rintro e w1 ⟨rfl,hb1⟩
   go_wp2
   go_ret
   exact ⟨ret_int HC.out.symm,hb1⟩
 · have HC:Hid (cbChk l how=if isHow how=true then 0 else 1):=by show _=_;unfold cbChk;rw [e];rfl
   rw [e] at hck
   clear e
   cases hh:isHow how with
   | true=>
     rw [hh] at HC hJ
     clear hh
     go_enter Seq.func109,Tryz.ntmps109
     go_wp2_with fail
     refine hck.mono ?_
     rintro e w1 ⟨rfl,hb1⟩
     go_wp2_with (go_at_call 41;refine (hJ _).mono ?_;rintro e w' ⟨rfl,rfl⟩)
     go_ret
     exact ⟨ret_int HC.out.symm,by assumption⟩
   | false=>
     rw [hh] at HC hJ
     clear hh
     go_enter Seq.func109,Tryz.ntmps109
     go_wp2_with fail
     refine hck.mono ?_
     rintro e w1 ⟨rfl,hb1⟩
     go_wp2_with (go_at_call 41;refine (hJ _).mono ?_;rintro e w' ⟨rfl,rfl⟩)
     go_ret
     exact ⟨ret_int HC.out.symm,by assumption⟩
set_option maxRecDepth 100000 in
set_option maxHeartbeats 4000000 in
theorem wtogether_any (ao:Option Addr) (cap:Nat) (l:List (Int×Int×Int)) (t how:Int) (w:World) (hl:PcAt w ao l) (h3:l.length <= 200) (hg:∀p∈l,GoodM p) (hh:how=1 \/ how=2 \/ how=3):
   Calls Seq.prog 128 #[.slice ao l.length cap,.int .i64 t,.int .i64 how] w fun e w' =>e= .returned (.tuple #[.int .i64 ((mix how l t).getD 0),.bool (mix how l t).isSome]) /\ Below w.heap.size w w':=by
 have HG:=hideW hg
 clear hg
 go_enter Seq.func128,Tryz.ntmps128
 go_wp2
 go_loopw [8,9,14] (fun v s i wr=>∃k:Nat,k <= l.length /\ i= .int .i64 k /\ v= .int .i64 ((mix how (l.take k) t).getD 0) /\ s= .bool (mix how (l.take k) t).isSome /\ Below w.heap.size w wr) (fun _ _ i _=>l.length-(intOf i).toNat)
 case atStart=>exact ⟨0,Nat.zero_le _,rfl,rfl,rfl,Below.refl _ _⟩
 case round=>
   obtain ⟨k,hk,rfl,rfl,rfl,hb⟩:=hrel
   by_cases hlt:k<l.length
   · rcases hl.below hb with h0 | ⟨b,off,rfl,hbw,hc⟩
     · subst h0;simp at hlt
     obtain ⟨c0,c1,c2⟩:=PcAt.get hlt hc
     have HB:=hideW (fun o=>ptw hb (pal wr o))
     have HM:=hideW (mix_take (how:=how) (t:=t) hlt)
     have HBd:=hideW (fun x=>mix_bound_take (how:=how) (t:=t) (x:=x) (k:=k) (fun p hp=>(HG.out p hp).1.2.2) h3)
     have hgk:=HG.out l[k] (List.getElem_mem hlt)
     have hnv:=hideW hgk.1.2.2
     clear hc hl hb hgk
     cases hin:inP l[k] t with
     | false=>
       have HM' :Hid (mix how (l.take (k+1)) t=mix how (l.take k) t):=by show _=_;rw [HM.out,hin];rfl
       generalize mix how (l.take k) t=o at*
       by_cases g1:t<l[k].1
       · have d1:decide (t<l[k].1)=true:=by simpa using g1
         clear hin g1
         go_wp2
         go_roundw
         case rel=>exact ⟨k+1,by omega,by go_num,by rw [HM'.out],by rw [HM'.out],HB.out _⟩
         case measure=>simp [intOf];omega
       · have d1:decide (t<l[k].1)=false:=by simpa using g1
         have d2:decide (l[k].2.1 <= t)=true:=by
           have:¬(inP l[k] t=true):=by rw [hin];decide
           rw [inP_iff] at this
           simp;omega
         clear hin g1
         go_wp2
         go_roundw
         case rel=>exact ⟨k+1,by omega,by go_num,by rw [HM'.out],by rw [HM'.out],HB.out _⟩
         case measure=>simp [intOf];omega
     | true=>
       have HM' :Hid (mix how (l.take (k+1)) t=mixO how (mix how (l.take k) t) l[k].2.2):=by show _=_;rw [HM.out,hin];rfl
       have hi2:=(inP_iff _ _).1 hin
       have d1:decide (t<l[k].1)=false:=by simp;omega
       have d2:decide (l[k].2.1 <= t)=false:=by simp;omega
       clear hin hi2
       cases ho:mix how (l.take k) t with
       | none=>
         rw [ho] at HM'
         have HV:Hid ((mix how (l.take (k+1)) t).getD 0=l[k].2.2 /\ (mix how (l.take (k+1)) t).isSome=true):=by show _ /\ _;rw [HM'.out];exact ⟨rfl,rfl⟩
         clear ho
         simp only [Option.getD_none,Option.isSome_none]
         go_wp2
         go_roundw
         case rel=>exact ⟨k+1,by omega,by go_num,by rw [HV.out.1],by rw [HV.out.2],HB.out _⟩
         case measure=>simp [intOf];omega
       | some x=>
         rw [ho] at HM'
         have hT:=fun W=>join_any x l[k].2.2 how W hh (by have:=HBd.out x ho;unfold wideB;omega) (wide_of_near hnv.out)
         have HV:Hid ((mix how (l.take (k+1)) t).getD 0=both how x l[k].2.2 /\ (mix how (l.take (k+1)) t).isSome=true):=by show _ /\ _;rw [HM'.out];exact ⟨rfl,rfl⟩
         clear ho
         simp only [Option.getD_some,Option.isSome_some]
         generalize both how x l[k].2.2=q at hT HV
         go_wp2_with (go_at_call 45;refine (hT _).mono ?_;rintro e w' ⟨rfl,rfl⟩)
         go_roundw
         case rel=>exact ⟨k+1,by omega,by go_num,by rw [HV.out.1],by rw [HV.out.2],HB.out _⟩
         case measure=>simp [intOf];omega
   · have hkl:k=l.length:=by omega
     subst hkl
     rw [List.take_length]
     go_wp2
     go_ret2
     exact ⟨rfl,hb⟩
set_option maxRecDepth 100000 in
set_option maxHeartbeats 4000000 in
theorem wchanges_any (mo lo:Option Addr) (mc lc:Nat) (m l:List (Int×Int×Int)) (w:World) (hm:PcAt w mo m) (hl:PcAt w lo l) (h3:m.length <= 200) (h4:l.length <= 200):
   Calls Seq.prog 127 #[.slice mo m.length mc,.slice lo l.length lc] w fun e w' =>∃v,e= .returned v /\ w'.ownsRow w.heap.size 3 1 v (turnsOf m++turnsOf l).length ((turnsOf m++turnsOf l).map (Value.int .i64)) /\ Below w.heap.size w w':=by
 obtain ⟨i0,hi,hz0,hz1,hz2⟩:=info_parts Tryz.infoInt
 have hnb:∀(o:Obj) (v:Value) (n:Nat) (xs:List Value) (wr:World),wr.ownsRow w.heap.size 3 1 v n xs -> Below w.heap.size w wr -> ∀(o' :Obj) (w1:World),((wr.alloc o).alloc o').grownBy w1 v.ownBlock -> Below w.heap.size w w1:=fun o v n xs wr ho hb o' w1 hgr=>((hb.alloc hb.size o).alloc (by have:=hb.size;simp;omega) o').grown hgr (by have:=hb.size;simp;omega) (fun j hj=>(ho.lt j hj).1)
 have HNB:=hideW hnb
 clear hnb
 go_enter Seq.func127,Tryz.ntmps127
 go_wp2
 go_loopw [5,12] (fun v i wr=>∃k:Nat,k <= m.length /\ i= .int .i64 k /\ wr.ownsRow w.heap.size 3 1 v (2*k) ((turnsOf (m.take k)).map (Value.int .i64)) /\ Below w.heap.size w wr) (fun _ i _=>m.length-(intOf i).toNat)
 case atStart=>exact ⟨0,Nat.zero_le _,rfl,World.ownsRow_nil _ _ _ _,Below.refl _ _⟩
 case round=>
   obtain ⟨k,hk,rfl,hown,hb⟩:=hrel
   have hsz:=hb.size
   by_cases hlt:k<m.length
   · rcases hm.below hb with h0 | ⟨b,off,rfl,hbw,hc⟩
     · subst h0;simp at hlt
     obtain ⟨c0,c1,c2⟩:=PcAt.get hlt hc
     have HT:=hideW (turnsOf_succ m k hlt)
     have HBg:=hideW (fun o o' w1=>HNB.out o u5 _ _ wr hown hb o' w1)
     clear hc hm hb
     go_wp2_with (at_builtin;refine wpList_append_own _ rfl _ _ 37 rfl w.heap.size 3 i0 (.int .i64 0) 1 8 ((Seq.pu 37).trans Tryz.underlying37) hi hz0 hz1 hz2 rfl (by decide) _ _ _ rfl (World.ownsRow.alloc (World.ownsRow.alloc (w:=wr) hown _) _) ⟨wr.heap.size+1,0,none⟩ 2 2 [.int .i64 m[k].1,.int .i64 m[k].2.1] rfl rfl (cells_two_new _ _ _ _ _ (by simp)) (by intro u hu;simp at hu;rcases hu with rfl | rfl<;>rfl) (by unfold maxLen;omega) (by omega) (by simp;omega) ?_;intro v' w1 hown1 hgrow _)
     have hb':=HBg.out _ _ _ hgrow
     have R:w1.ownsRow w.heap.size 3 1 v' (2*(k+1)) ((turnsOf (m.take (k+1))).map (Value.int .i64)):=by
       rw [HT.out,List.map_append];exact hown1
     clear hgrow hown hown1
     go_wp2
     go_roundw
     case rel=>exact ⟨k+1,by omega,by go_num,R,hb'⟩
     case measure=>simp [intOf];omega
   · have hkl:k=m.length:=by omega
     subst hkl
     rw [List.take_length] at hown
     have hml:(turnsOf m).length=2*m.length:=turnsOf_length m
     have HML:=hideW hml
     clear hm hml
     obtain ⟨wo,hwo⟩:∃x,x=wr:=⟨_,rfl⟩
     rw [<- hwo] at hown hb hsz ⊢
     have hu5:=hown
     clear hwo
     go_wp2
     go_loopw [5,26] (fun v i wr=>∃k:Nat,k <= l.length /\ i= .int .i64 k /\ wr.ownsRow w.heap.size 3 1 v (2*m.length+2*k) ((turnsOf m++turnsOf (l.take k)).map (Value.int .i64)) /\ Below w.heap.size w wr) (fun _ i _=>l.length-(intOf i).toNat)
     case atStart=>exact ⟨0,Nat.zero_le _,rfl,by rw [List.take_zero,show turnsOf ([]:List (Int×Int×Int))=[] from rfl,List.append_nil];exact hown,hb⟩
     case round=>
       clear hown hb hsz hu5
       obtain ⟨k,hk,rfl,hown,hb⟩:=hrel
       have hsz:=hb.size
       by_cases hlt:k<l.length
       · rcases hl.below hb with h0 | ⟨b,off,rfl,hbw,hc⟩
         · subst h0;simp at hlt
         obtain ⟨c0,c1,c2⟩:=PcAt.get hlt hc
         have HT:=hideW (turnsOf_succ l k hlt)
         have HBg:=hideW (fun o o' w1=>HNB.out o _ _ _ wr hown hb o' w1)
         clear hc hl hb
         go_wp2_with (at_builtin;refine wpList_append_own _ rfl _ _ 37 rfl w.heap.size 3 i0 (.int .i64 0) 1 8 ((Seq.pu 37).trans Tryz.underlying37) hi hz0 hz1 hz2 rfl (by decide) _ _ _ rfl (World.ownsRow.alloc (World.ownsRow.alloc (w:=wr) hown _) _) ⟨wr.heap.size+1,0,none⟩ 2 2 [.int .i64 l[k].1,.int .i64 l[k].2.1] rfl rfl (cells_two_new _ _ _ _ _ (by simp)) (by intro u hu;simp at hu;rcases hu with rfl | rfl<;>rfl) (by unfold maxLen;omega) (by omega) (by simp;omega) ?_;intro v' w1 hown1 hgrow _)
         have hb':=HBg.out _ _ _ hgrow
         have R:w1.ownsRow w.heap.size 3 1 v' (2*m.length+2*(k+1)) ((turnsOf m++turnsOf (l.take (k+1))).map (Value.int .i64)):=by
           rw [HT.out,<- List.append_assoc,List.map_append];exact hown1
         clear hgrow hown hown1
         go_wp2
         go_roundw
         case rel=>exact ⟨k+1,by omega,by go_num,R,hb'⟩
         case measure=>simp [intOf];omega
       · have hkl:k=l.length:=by omega
         subst hkl
         rw [List.take_length] at hown
         have R:Hid (wr.ownsRow w.heap.size 3 1 u5 (turnsOf m++turnsOf l).length ((turnsOf m++turnsOf l).map (Value.int .i64))):=by
           show World.ownsRow _ _ _ _ _ _ _
           rw [List.length_append,HML.out,turnsOf_length l];exact hown
         clear hown
         go_wp2
         go_ret
         exact ⟨_,rfl,R.out,hb⟩
end Go.Proofs.YtfphigmeppdocaaGreat.Q
