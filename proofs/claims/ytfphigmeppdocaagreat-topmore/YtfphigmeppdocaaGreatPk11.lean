/-
  Several texts in one.
-/
import Derived.Test.YtfphigmeppdocaaGreatPk10
namespace Go.Proofs.YtfphigmeppdocaaGreat.Q
open Lo (Seq.prog)
open Go.RowKit
set_option maxRecDepth 100000 in
set_option maxHeartbeats 8000000 in
theorem bsLess_any (to ho:Option Addr) (tc hc n:Nat) (T H:Nat -> List P3) (B:Int) (hB:B <= 1000000) (hn:n <= 12) (w:World) (hT:MsAt w to n T) (hH:MsAt w ho n H) (hTs:∀v,v<n -> Sm B (T v)) (hHs:∀v,v<n -> Sm B (H v)):
   Calls Seq.prog 53 #[.slice to n tc,.slice ho n hc] w fun r w' =>∃val N,r= .returned (.slice (some ⟨w.heap.size,0,none⟩) n n) /\ AM w' w.heap.size w.heap.size n val N /\ (∀v,v<n -> Sm B (N v) /\ ∀t,tel (N v) t=lessF (tel (T v) t) (tel (H v) t)) /\ Below w.heap.size w w':=by
 obtain ⟨i1,hi',hy0,hy1,hy2⟩:=info_parts Tryz.infoPcs
 have HT:=hideg hT
 have HH:=hideg hH
 have HTs:=hideg hTs
 have HHs:=hideg hHs
 clear hT hH hTs hHs
 go_enter Seq.func53,Tryz.ntmps53
 go_wp2_with (at_make;refine wpList_make_full _ rfl _ _ 99 rfl w.heap.size 41 i1 (.slice none 0 0) 1 ((Seq.pu 99).trans Tryz.underlying99) hi' hy0 hy1 .i64 .i64 _ _ n rfl rfl rfl rfl (by rw [hy2];omega) (by unfold maxLen;omega) (by simp) ?_;intro w0 hown0 hgrow0)
 have HA0:=hideg (am_start hown0)
 have HB0:Hid (Below w.heap.size w w0):=(Below.refl w.heap.size w).grown hgrow0 (Nat.le_refl _) (fun k hk=>by cases hk)
 clear hown0 hgrow0
 go_loopw [16] (fun i wr=>∃(j:Nat) (val:Nat -> Value) (N:Nat -> List P3),j <= n /\ i= .int .i64 j /\ AM wr w.heap.size w.heap.size n val N /\ (∀v,v<n -> Sm B (N v) /\ ∀t,tel (N v) t=if v<j then lessF (tel (T v) t) (tel (H v) t) else none) /\ Below w.heap.size w wr) (fun i _=>n-(intOf i).toNat)
 case atStart=>exact ⟨0,_,_,Nat.zero_le _,rfl,HA0.out,fun v hv=>⟨sm_nil B,fun t=>rfl⟩,HB0.out⟩
 case round=>
   clear HA0 HB0
   obtain ⟨j,val0,N0,hj,rfl,hA,hI,hb⟩:=hrel
   by_cases hjlt:j<n
   · have hji:(j:Int)<(n:Int):=by omega
     obtain ⟨tb,tof,ta,tcc,rfl,htl,y0,pt⟩:=(HT.out.below hb).at1 hjlt
     obtain ⟨hbb,hof,hha,hcc,rfl,hhl,z0,ph⟩:=(HH.out.below hb).at1 hjlt
     have hl200:(H j).length <= 200:=by have:=(HHs.out j hjlt).len hB;omega
     have HA:=hideg hA
     have HI:=hideg hI
     have HB:=hideg hb
     have hbd:Below wr.heap.size wr wr.drew:=(Below.refl _ _).drew
     have HMs:=hideg ((bsMessages_any hha hcc (H j) wr.drew (ph.below hbd) hl200).mono (R':=fun r w' =>∃a c,r= .returned (.slice a (H j).length c) /\ PcAt w' a (H j) /\ Below wr.heap.size wr w') (by
       rintro e w' ⟨a,c,rfl,h1,h2⟩
       exact ⟨a,c,rfl,h1,hbd.trans h2⟩))
     have HCe:Hid (∀(w2:World) (a:Option Addr) (c:Nat),Below wr.heap.size wr w2 -> PcAt w2 a (H j) -> Calls Seq.prog 79 #[.slice ta (T j).length tcc,.slice a (H j).length c,.int .i64 1] w2 fun e w' =>∃v r,e= .returned (.tuple #[v,.int .i64 0]) /\ r.length <= 200 /\ (∀c∈r,0 <= c.1 /\ c.1 <= 100 /\ 0 <= c.2.1 /\ c.2.1 <= 100 /\ 0 <= c.2.2.2.2 /\ c.2.2.2.2 <= B) /\ (∀t,putC r t=lessF (tel (T j) t) (tel (H j) t)) /\ w'.ownsRow wr.heap.size 150 5 v r.length (encC r) /\ Below wr.heap.size wr w'):=by
       intro w2 a c h2 hp
       refine (Cells_any ta a tcc c (T j) (H j) 1 w2 (pt.below h2) hp).mono ?_
       rintro e w' ⟨m,r,hO,v,rfl,ho,hb'⟩
       obtain ⟨rfl,g2,g3,g4⟩:=cells_less (HTs.out j hjlt) (HHs.out j hjlt) hB hO
       exact ⟨v,r,rfl,g2,g3,g4,owns_base2 ho h2.size,ptw h2 hb'⟩
     have HAfter:Hid (∀w3,Below wr.heap.size wr w3 -> (w3.cell? ⟨tb,tof+j,none⟩=some (.slice ta (T j).length tcc) /\ w3.cell? ⟨hbb,hof+j,none⟩=some (.slice hha (H j).length hcc))):=fun w3 h3=>
       ⟨(h3.cell (p:=⟨tb,tof+j,none⟩) htl).trans y0,(h3.cell (p:=⟨hbb,hof+j,none⟩) hhl).trans z0⟩
     have SS:=HAfter.out _ hbd
     have lN:=(hA.own.lt w.heap.size rfl).2
     clear hA hI hb y0 z0 pt ph hl200 hbd
     go_wp2_with fail
     refine wp_region_noPanic ?_
     refine wp_region_held_drew (S:=fun w3=>w3.cell? ⟨tb,tof+j,none⟩=some (.slice ta (T j).length tcc) /\ w3.cell? ⟨hbb,hof+j,none⟩=some (.slice hha (H j).length hcc)) (by kernel_rfl) SS (fun hHeld=> ?_)
     refine take_lit (i:=0) (v:= ?_) rfl (by kernel_rfl) (by kernel_rfl) (by kernel_rfl) (fun _ _ _ h=>h) (Or.inl ⟨by rfl,?hy0⟩) (by assumption) ?_
     case hy0=>(intro w hSw;(try dsimp only at hSw);go_simp;try with_reducible rfl)
     try simp only [Act.put,List.setIfInBounds_toArray,List.set_cons_zero,List.set_cons_succ]
     refine take_lit (i:=1) (v:= ?_) rfl (by kernel_rfl) (by kernel_rfl) (by kernel_rfl) (fun _ _ _ h=>h) (Or.inl ⟨by rfl,?hy1⟩) (by assumption) ?_
     case hy1=>(intro w hSw;(try dsimp only at hSw);go_simp;try with_reducible rfl)
     try simp only [Act.put,List.setIfInBounds_toArray,List.set_cons_zero,List.set_cons_succ]
     refine take_lit (i:=2) (v:= ?_) rfl (by kernel_rfl) (by kernel_rfl) (by kernel_rfl) (fun _ _ _ h=>h) (Or.inl ⟨by rfl,?hy2⟩) (by assumption) ?_
     case hy2=>(intro w hSw;(try dsimp only at hSw);go_simp;try with_reducible rfl)
     try simp only [Act.put,List.setIfInBounds_toArray,List.set_cons_zero,List.set_cons_succ]
     refine take_lit (i:=3) (v:= ?_) rfl (by kernel_rfl) (by kernel_rfl) (by kernel_rfl) (fun _ _ _ h=>h) (Or.inl ⟨by rfl,?hy3⟩) (by assumption) ?_
     case hy3=>(intro w hSw;(try dsimp only at hSw);go_simp;try with_reducible rfl)
     try simp only [Act.put,List.setIfInBounds_toArray,List.set_cons_zero,List.set_cons_succ]
     refine take_lit (i:=4) (v:= ?_) rfl (by kernel_rfl) (by kernel_rfl) (by kernel_rfl) (fun _ _ _ h=>h) (Or.inl ⟨by rfl,?hy4⟩) (by assumption) ?_
     case hy4=>(intro w hSw;(try dsimp only at hSw);go_simp;try with_reducible rfl)
     try simp only [Act.put,List.setIfInBounds_toArray,List.set_cons_zero,List.set_cons_succ]
     refine take_lit (i:=5) (v:= ?_) rfl (by kernel_rfl) (by kernel_rfl) (by kernel_rfl) (fun _ _ _ h=>h) (Or.inl ⟨by rfl,?hy5⟩) (by assumption) ?_
     case hy5=>(intro w hSw;(try dsimp only at hSw);go_simp;try with_reducible rfl)
     try simp only [Act.put,List.setIfInBounds_toArray,List.set_cons_zero,List.set_cons_succ]
     refine take_lit (i:=6) (v:= ?_) rfl (by kernel_rfl) (by kernel_rfl) (by kernel_rfl) (fun _ _ _ h=>h) (Or.inl ⟨by rfl,?hy6⟩) (by assumption) ?_
     case hy6=>(intro w hSw;(try dsimp only at hSw);go_simp;try with_reducible rfl)
     try simp only [Act.put,List.setIfInBounds_toArray,List.set_cons_zero,List.set_cons_succ]
     refine take_lit (i:=7) (v:= ?_) rfl (by kernel_rfl) (by kernel_rfl) (by kernel_rfl) (fun _ _ _ h=>h) (Or.inl ⟨by rfl,?hy7⟩) (by assumption) ?_
     case hy7=>(intro w hSw;(try dsimp only at hSw);go_simp;try with_reducible rfl)
     try simp only [Act.put,List.setIfInBounds_toArray,List.set_cons_zero,List.set_cons_succ]
     refine next_lit (i:=8) rfl (by kernel_rfl) (fun K hK=> ?_)
     go_simp
     refine HMs.out.mono ?_
     rintro e w2 ⟨ma,mc,rfl,hpm,hb2⟩
     refine hK.out _ _ (HAfter.out w2 hb2) (fun hHeld=> ?_)
     clear hK K hHeld
     try simp only [Act.put,List.setIfInBounds_toArray,List.set_cons_zero,List.set_cons_succ]
     refine next_lit (i:=9) rfl (by kernel_rfl) (fun K hK=> ?_)
     go_simp
     refine (HCe.out w2 ma mc hb2 hpm).mono ?_
     rintro e w3 ⟨cv,r,rfl,hr200,hrc,hrp,hro,hb3⟩
     have KK:=HAfter.out w3 hb3
     refine hK.out _ _ KK (fun hHeld=> ?_)
     clear hK K hHeld
     try simp only [Act.put,List.setIfInBounds_toArray,List.set_cons_zero,List.set_cons_succ]
     refine take_lit (i:=10) (v:= ?_) rfl (by kernel_rfl) (by kernel_rfl) (by kernel_rfl) (fun _ _ _ h=>h) (Or.inl ⟨by rfl,?hy10⟩) (by assumption) ?_
     case hy10=>(intro w hSw;(try dsimp only at hSw);go_simp;try with_reducible rfl)
     try simp only [Act.put,List.setIfInBounds_toArray,List.set_cons_zero,List.set_cons_succ]
     refine take_lit (i:=11) (v:= ?_) rfl (by kernel_rfl) (by kernel_rfl) (by kernel_rfl) (fun _ _ _ h=>h) (Or.inl ⟨by rfl,?hy11⟩) (by assumption) ?_
     case hy11=>(intro w hSw;(try dsimp only at hSw);go_simp;try with_reducible rfl)
     try simp only [Act.put,List.setIfInBounds_toArray,List.set_cons_zero,List.set_cons_succ]
     refine take_lit (i:=12) (v:= ?_) rfl (by kernel_rfl) (by kernel_rfl) (by kernel_rfl) (fun _ _ _ h=>h) (Or.inl ⟨by rfl,?hy12⟩) (by assumption) ?_
     case hy12=>(intro w hSw;(try dsimp only at hSw);go_simp;try with_reducible rfl)
     try simp only [Act.put,List.setIfInBounds_toArray,List.set_cons_zero,List.set_cons_succ]
     refine take_lit (i:=13) (v:= ?_) rfl (by kernel_rfl) (by kernel_rfl) (by kernel_rfl) (fun _ _ _ h=>h) (Or.inl ⟨by rfl,?hy13⟩) (by assumption) ?_
     case hy13=>(intro w hSw;(try dsimp only at hSw);go_simp;try with_reducible rfl)
     try simp only [Act.put,List.setIfInBounds_toArray,List.set_cons_zero,List.set_cons_succ]
     refine take_lit (i:=14) (v:= ?_) rfl (by kernel_rfl) (by kernel_rfl) (by kernel_rfl) (fun _ _ _ h=>h) (Or.inl ⟨by rfl,?hy14⟩) (by assumption) ?_
     case hy14=>(intro w hSw;(try dsimp only at hSw);go_simp;try with_reducible rfl)
     try simp only [Act.put,List.setIfInBounds_toArray,List.set_cons_zero,List.set_cons_succ]
     refine wpAnyH_done (by kernel_rfl) ?_ _
     refine NoPanic.normal ?_
     obtain ⟨ca,cc,rfl,_⟩:=ceAt_of_owns hro
     have HA3:=hideg (HA.out.below hb3)
     have HB3:=hideg (HB.out.trans (hb3.mono HB.out.size))
     have HRC:=hideg hrc
     have HRP:=hideg hrp
     obtain ⟨L,hL⟩:∃L,L=r.length:=⟨_,rfl⟩
     have HL:=hideg hL
     rw [<- hL] at hro hr200 ⊢
     have HRO:=hideg (owns_base2 hro (show w.heap.size+1 <= wr.heap.size by omega))
     clear hL hro hrc hrp hb3 hb2 hpm KK HA HB HMs HCe HAfter SS lN
     go_wp2_with fail
     go_loopw [34] (fun i wq=>∃(k:Nat) (val:Nat -> Value) (N:Nat -> List P3),k <= L /\ i= .int .i64 k /\ AM wq w.heap.size w.heap.size n val N /\ (∀v,v<n -> Sm B (N v) /\ ∀t,tel (N v) t=if v<j then lessF (tel (T v) t) (tel (H v) t) else if v=j then putC (r.take k) t else none) /\ Below w.heap.size w wq /\ wq.ownsRow (w.heap.size+1) 150 5 (.slice ca L cc) L (encC r)) (fun i _=>L-(intOf i).toNat)
     case atStart=>exact ⟨0,_,_,Nat.zero_le _,rfl,HA3.out,fun v hv=>⟨(HI.out v hv).1,fun t=>by rw [(HI.out v hv).2 t,List.take_zero];simp [putC]⟩,HB3.out,HRO.out⟩
     case round=>
       clear HA3 HB3 HI HRO
       obtain ⟨k,va,N,hk,rfl,hA,hI,hb,hro⟩:=hrel
       have HA:=hideg hA
       have HI:=hideg hI
       have HB:=hideg hb
       have HRO:=hideg hro
       clear hI
       by_cases hlt:k<L
       · have hki:(k:Int)<(L:Int):=by omega
         have hlt2:k<r.length:=by rw [<- HL.out];exact hlt
         obtain ⟨ao,cp,e,hce⟩:=ceAt_of_owns hro
         simp only [Value.slice.injEq] at e
         obtain ⟨rfl,hLL,rfl⟩:=e
         clear hLL
         rcases hce with h0 | ⟨cb,cof,rfl,hcl,hcs⟩
         · rw [h0] at hlt2;simp at hlt2
         obtain ⟨c0,c1,c2,c3,c4⟩:=CeAt.get hlt2 hcs
         have hg:=HRC.out _ (List.getElem_mem hlt2)
         have HTK:Hid (∀t,putC (r.take (k+1)) t=if newsC r[k]=true /\ r[k].1 <= t /\ t<r[k].2.1 then some r[k].2.2.2.2 else putC (r.take k) t):=fun t=>by
           have:r.take (k+1)=r.take k++[r[k]]:=by rw [List.take_add_one];simp [hlt2]
           rw [this,putC_snoc]
         clear hcs
         generalize r[k]=c at*
         obtain ⟨cf,ct,cst,chas,cval⟩:=c
         simp only at hg c0 c1 c2 c3 c4
         have HBA:Hid (∀o,Below w.heap.size w (wr.alloc o)):=fun o=>HB.out.alloc HB.out.size o
         have HAA:Hid (∀o,AM (wr.alloc o) w.heap.size w.heap.size n va N):=fun o=>HA.out.below (pal wr o)
         have HRA:Hid (∀o,(wr.alloc o).ownsRow (w.heap.size+1) 150 5 (.slice (some ⟨cb,cof,none⟩) L cc) L (encC r)):=fun o=>HRO.out.alloc o
         by_cases hw:newsC (cf,ct,cst,chas,cval)=true
         · have HNX:Hid (∀r3:List P3,Sm B r3 -> (∀t,tel r3 t=putF (N j) (cf,ct,cval) t) -> ∀v,v<n -> Sm B (updF N j r3 v) /\ ∀t,tel (updF N j r3 v) t=if v<j then lessF (tel (T v) t) (tel (H v) t) else if v=j then putC (r.take (k+1)) t else none):=by
             intro r3 hs3 ht3 v hv
             by_cases e:v=j
             · subst e
               rw [updF_same]
               refine ⟨hs3,fun t=> ?_⟩
               rw [ht3 t,if_neg (by omega),if_pos rfl,HTK.out]
               show (if (decide (cf <= t)&&decide (t<ct))=true then some cval else tel (N v) t)=if newsC (cf,ct,cst,chas,cval)=true /\ cf <= t /\ t<ct then some cval else putC (r.take k) t
               by_cases hc:cf <= t /\ t<ct
               · rw [if_pos (by simp;omega),if_pos ⟨hw,hc⟩]
               · rw [if_neg (by simp;omega),if_neg (fun h=>hc h.2),(HI.out v hv).2 t,if_neg (by omega),if_pos rfl]
             · rw [updF_far _ _ e]
               refine ⟨(HI.out v hv).1,fun t=> ?_⟩
               rw [(HI.out v hv).2 t,if_neg e,if_neg e]
           have hcase:chas=false \/ (chas=true /\ cval<cst):=by
             unfold newsC at hw
             cases chas<;>simp at hw ⊢
             exact hw
           obtain ⟨o1,ho1⟩:∃o,o=Obj.cells #[.int .i64 cf,.int .i64 ct,.int .i64 cst,.bool chas,.int .i64 cval] 150:=⟨_,rfl⟩
           have hA1:=HAA.out o1
           have hB1:=HBA.out o1
           have hR1:=HRA.out o1
           obtain ⟨a1,cc1,ev,p1⟩:=pcAt_of_owns (hA1.inn j hjlt)
           have x1:=hA1.out hjlt
           rw [ev] at x1
           obtain ⟨w1,hw1⟩:∃x,x=wr.alloc o1:=⟨_,rfl⟩
           rw [<- hw1] at hA1 hB1 p1 x1 hR1
           have hbd:Below w1.heap.size w1 w1.drew:=(Below.refl _ _).drew
           have HPu:Hid (Calls Seq.prog 81 #[.slice a1 (N j).length cc1,.agg #[.int .i64 cf,.int .i64 ct,.int .i64 cval]] w1.drew fun e w' =>∃v q,e= .returned (.tuple #[v,.int .i64 0]) /\ Sm B q /\ (∀t,tel q t=putF (N j) (cf,ct,cval) t) /\ w'.ownsRow w1.heap.size 54 3 v q.length (enc3 q) /\ Below w1.heap.size w1 w'):=by
             refine (Put_any a1 cc1 (N j) (cf,ct,cval) w1.drew (p1.below hbd)).mono ?_
             rintro e w' ⟨m,q,hO,v,rfl,ho,hb'⟩
             obtain ⟨rfl,g2,g3⟩:=sm_put (HI.out j hjlt).1 (by simp only;omega) (by simp only;omega) hB hO
             exact ⟨v,q,rfl,g2,g3,ho,hbd.trans hb'⟩
           have l1:=(hA1.own.lt w.heap.size rfl).2
           have z1:w1.heap.size=wr.heap.size+1:=by rw [hw1];simp
           have HAfter:Hid (∀w3,Below w1.heap.size w1 w3 -> (w3.cell? ⟨wr.heap.size,0,none⟩=some (.int .i64 cf) /\ w3.cell? ⟨wr.heap.size,1,none⟩=some (.int .i64 ct) /\ w3.cell? ⟨wr.heap.size,4,none⟩=some (.int .i64 cval) /\ w3.cell? ⟨w.heap.size,j,none⟩=some (.slice a1 (N j).length cc1))):=fun w3 h3=>
             ⟨(h3.cell (p:=⟨wr.heap.size,0,none⟩) (by simp only;omega)).trans (by rw [hw1,ho1];simp),(h3.cell (p:=⟨wr.heap.size,1,none⟩) (by simp only;omega)).trans (by rw [hw1,ho1];simp),(h3.cell (p:=⟨wr.heap.size,4,none⟩) (by simp only;omega)).trans (by rw [hw1,ho1];simp),(h3.cell (p:=⟨w.heap.size,j,none⟩) l1).trans x1⟩
           have SS:=HAfter.out _ hbd
           have HA1:=hideg hA1
           have HB1:=hideg hB1
           have HR1:=hideg hR1
           subst ho1
           clear hA hb hro hA1 hB1 hR1 p1 ev x1 hbd HAA HBA HRA HTK z1 hw hg HRO hlt2
           subst hw1
           rcases hcase with rfl | ⟨rfl,hlc⟩
           · go_wp2_with fail
             refine wp_region_backX 16 (S:=fun w3=>w3.cell? ⟨wr.heap.size,0,none⟩=some (.int .i64 cf) /\ w3.cell? ⟨wr.heap.size,1,none⟩=some (.int .i64 ct) /\ w3.cell? ⟨wr.heap.size,4,none⟩=some (.int .i64 cval) /\ w3.cell? ⟨w.heap.size,j,none⟩=some (.slice a1 (N j).length cc1)) (by kernel_rfl) (by simp) (by kernel_rfl) (by kernel_rfl) (by kernel_rfl) (by kernel_rfl) SS (fun hHeld=> ?_)
             simp only [List.pop_toArray,List.dropLast,List.back!_toArray,List.getLast!]
             refine take_lit (i:=0) (v:= ?_) rfl (by kernel_rfl) (by kernel_rfl) (by kernel_rfl) (fun _ _ _ h=>h) (Or.inl ⟨by rfl,?hy0⟩) (by assumption) ?_
             case hy0=>(intro w hSw;(try dsimp only at hSw);go_simp;try with_reducible rfl)
             try simp only [Act.put,List.setIfInBounds_toArray,List.set_cons_zero,List.set_cons_succ]
             refine take_lit (i:=1) (v:= ?_) rfl (by kernel_rfl) (by kernel_rfl) (by kernel_rfl) (fun _ _ _ h=>h) (Or.inl ⟨by rfl,?hy1⟩) (by assumption) ?_
             case hy1=>(intro w hSw;(try dsimp only at hSw);go_simp;try with_reducible rfl)
             try simp only [Act.put,List.setIfInBounds_toArray,List.set_cons_zero,List.set_cons_succ]
             refine take_lit (i:=2) (v:= ?_) rfl (by kernel_rfl) (by kernel_rfl) (by kernel_rfl) (fun _ _ _ h=>h) (Or.inl ⟨by rfl,?hy2⟩) (by assumption) ?_
             case hy2=>(intro w hSw;(try dsimp only at hSw);go_simp;try with_reducible rfl)
             try simp only [Act.put,List.setIfInBounds_toArray,List.set_cons_zero,List.set_cons_succ]
             refine take_lit (i:=3) (v:= ?_) rfl (by kernel_rfl) (by kernel_rfl) (by kernel_rfl) (fun _ _ _ h=>h) (Or.inl ⟨by rfl,?hy3⟩) (by assumption) ?_
             case hy3=>(intro w hSw;(try dsimp only at hSw);go_simp;try with_reducible rfl)
             try simp only [Act.put,List.setIfInBounds_toArray,List.set_cons_zero,List.set_cons_succ]
             refine take_lit (i:=4) (v:= ?_) rfl (by kernel_rfl) (by kernel_rfl) (by kernel_rfl) (fun _ _ _ h=>h) (Or.inl ⟨by rfl,?hy4⟩) (by assumption) ?_
             case hy4=>(intro w hSw;(try dsimp only at hSw);go_simp;try with_reducible rfl)
             try simp only [Act.put,List.setIfInBounds_toArray,List.set_cons_zero,List.set_cons_succ]
             refine take_lit (i:=5) (v:= ?_) rfl (by kernel_rfl) (by kernel_rfl) (by kernel_rfl) (fun _ _ _ h=>h) (Or.inl ⟨by rfl,?hy5⟩) (by assumption) ?_
             case hy5=>(intro w hSw;(try dsimp only at hSw);go_simp;try with_reducible rfl)
             try simp only [Act.put,List.setIfInBounds_toArray,List.set_cons_zero,List.set_cons_succ]
             refine take_lit (i:=6) (v:= ?_) rfl (by kernel_rfl) (by kernel_rfl) (by kernel_rfl) (fun _ _ _ h=>h) (Or.inl ⟨by rfl,?hy6⟩) (by assumption) ?_
             case hy6=>(intro w hSw;(try dsimp only at hSw);go_simp;try with_reducible rfl)
             try simp only [Act.put,List.setIfInBounds_toArray,List.set_cons_zero,List.set_cons_succ]
             refine take_lit (i:=7) (v:= ?_) rfl (by kernel_rfl) (by kernel_rfl) (by kernel_rfl) (fun _ _ _ h=>h) (Or.inl ⟨by rfl,?hy7⟩) (by assumption) ?_
             case hy7=>(intro w hSw;(try dsimp only at hSw);go_simp;try with_reducible rfl)
             try simp only [Act.put,List.setIfInBounds_toArray,List.set_cons_zero,List.set_cons_succ]
             refine take_lit (i:=8) (v:= ?_) rfl (by kernel_rfl) (by kernel_rfl) (by kernel_rfl) (fun _ _ _ h=>h) (Or.inl ⟨by rfl,?hy8⟩) (by assumption) ?_
             case hy8=>(intro w hSw;(try dsimp only at hSw);go_simp;try with_reducible rfl)
             try simp only [Act.put,List.setIfInBounds_toArray,List.set_cons_zero,List.set_cons_succ]
             refine take_lit (i:=9) (v:= ?_) rfl (by kernel_rfl) (by kernel_rfl) (by kernel_rfl) (fun _ _ _ h=>h) (Or.inl ⟨by rfl,?hy9⟩) (by assumption) ?_
             case hy9=>(intro w hSw;(try dsimp only at hSw);go_simp;try with_reducible rfl)
             try simp only [Act.put,List.setIfInBounds_toArray,List.set_cons_zero,List.set_cons_succ]
             refine take_lit (i:=10) (v:= ?_) rfl (by kernel_rfl) (by kernel_rfl) (by kernel_rfl) (fun _ _ _ h=>h) (Or.inl ⟨by rfl,?hy10⟩) (by assumption) ?_
             case hy10=>(intro w hSw;(try dsimp only at hSw);go_simp;try with_reducible rfl)
             try simp only [Act.put,List.setIfInBounds_toArray,List.set_cons_zero,List.set_cons_succ]
             refine take_lit (i:=11) (v:= ?_) rfl (by kernel_rfl) (by kernel_rfl) (by kernel_rfl) (fun _ _ _ h=>h) (Or.inl ⟨by rfl,?hy11⟩) (by assumption) ?_
             case hy11=>(intro w hSw;(try dsimp only at hSw);go_simp;try with_reducible rfl)
             try simp only [Act.put,List.setIfInBounds_toArray,List.set_cons_zero,List.set_cons_succ]
             refine take_lit (i:=12) (v:= ?_) rfl (by kernel_rfl) (by kernel_rfl) (by kernel_rfl) (fun _ _ _ h=>h) (Or.inl ⟨by rfl,?hy12⟩) (by assumption) ?_
             case hy12=>(intro w hSw;(try dsimp only at hSw);go_simp;try with_reducible rfl)
             try simp only [Act.put,List.setIfInBounds_toArray,List.set_cons_zero,List.set_cons_succ]
             refine next_lit (i:=13) rfl (by kernel_rfl) (fun K hK=> ?_)
             go_simp
             refine HPu.out.mono ?_
             rintro e w3 ⟨v3,r3,rfl,hs3,ht3,ho3,hb3⟩
             obtain ⟨a3,c3,rfl,_⟩:=pcAt_of_owns ho3
             have KK:=HAfter.out w3 hb3
             refine hK.out _ _ KK (fun hHeld=> ?_)
             clear hK K hHeld
             try simp only [Act.put,List.setIfInBounds_toArray,List.set_cons_zero,List.set_cons_succ]
             refine take_lit (i:=14) (v:= ?_) rfl (by kernel_rfl) (by kernel_rfl) (by kernel_rfl) (fun _ _ _ h=>h) (Or.inl ⟨by rfl,?hy14⟩) (by assumption) ?_
             case hy14=>(intro w hSw;(try dsimp only at hSw);go_simp;try with_reducible rfl)
             try simp only [Act.put,List.setIfInBounds_toArray,List.set_cons_zero,List.set_cons_succ]
             refine take_lit (i:=15) (v:= ?_) rfl (by kernel_rfl) (by kernel_rfl) (by kernel_rfl) (fun _ _ _ h=>h) (Or.inl ⟨by rfl,?hy15⟩) (by assumption) ?_
             case hy15=>(intro w hSw;(try dsimp only at hSw);go_simp;try with_reducible rfl)
             try simp only [Act.put,List.setIfInBounds_toArray,List.set_cons_zero,List.set_cons_succ]
             refine take_lit (i:=16) (v:= ?_) rfl (by kernel_rfl) (by kernel_rfl) (by kernel_rfl) (fun _ _ _ h=>h) (Or.inl ⟨by rfl,?hy16⟩) (by assumption) ?_
             case hy16=>(intro w hSw;(try dsimp only at hSw);go_simp;try with_reducible rfl)
             try simp only [Act.put,List.setIfInBounds_toArray,List.set_cons_zero,List.set_cons_succ]
             refine take_lit (i:=17) (v:= ?_) rfl (by kernel_rfl) (by kernel_rfl) (by kernel_rfl) (fun _ _ _ h=>h) (Or.inl ⟨by rfl,?hy17⟩) (by assumption) ?_
             case hy17=>(intro w hSw;(try dsimp only at hSw);go_simp;try with_reducible rfl)
             try simp only [Act.put,List.setIfInBounds_toArray,List.set_cons_zero,List.set_cons_succ]
             refine wpAnyH_done (by kernel_rfl) ?_ _
             refine back_last (fun K hK=> ?_)
             have A3:=HA1.out.below hb3
             have fz3:=World.ownsRow.frozenAt A3.own j
             have x3:=KK.2.2.2
             have HS5:=hideg (HA1.out.set hjlt hb3 HB1.out.size ho3)
             have HB7:=hideg ((HB1.out.trans (hb3.mono HB1.out.size)).setCell (p:=⟨w.heap.size,j,none⟩) (Nat.le_refl _) (.slice a3 r3.length c3))
             have HI7:=hideg (HNX.out r3 hs3 ht3)
             have HR7:=hideg (ownsRow_setBox (j:=j) (u:= .slice a3 r3.length c3) (ownsRow_below HR1.out hb3) (show (Value.slice (some ⟨cb,cof,none⟩) L cc).ownBlock≠some w.heap.size from fun e=>by have:=(HR1.out.lt _ e).1;omega))
             clear A3 KK ho3 hb3 hs3 ht3 HNX
             go_simp
             refine hK.out _ _ (NoPanic.normal ?_)
             clear hK K
             go_wp2
             go_roundw
             case rel=>exact ⟨k+1,_,_,by omega,by go_num,HS5.out,HI7.out,HB7.out,HR7.out⟩
             case measure=>simp [intOf];omega
           · go_wp2_with fail
             refine wp_region_backX 16 (S:=fun w3=>w3.cell? ⟨wr.heap.size,0,none⟩=some (.int .i64 cf) /\ w3.cell? ⟨wr.heap.size,1,none⟩=some (.int .i64 ct) /\ w3.cell? ⟨wr.heap.size,4,none⟩=some (.int .i64 cval) /\ w3.cell? ⟨w.heap.size,j,none⟩=some (.slice a1 (N j).length cc1)) (by kernel_rfl) (by simp) (by kernel_rfl) (by kernel_rfl) (by kernel_rfl) (by kernel_rfl) SS (fun hHeld=> ?_)
             simp only [List.pop_toArray,List.dropLast,List.back!_toArray,List.getLast!]
             refine take_lit (i:=0) (v:= ?_) rfl (by kernel_rfl) (by kernel_rfl) (by kernel_rfl) (fun _ _ _ h=>h) (Or.inl ⟨by rfl,?hy0⟩) (by assumption) ?_
             case hy0=>(intro w hSw;(try dsimp only at hSw);go_simp;try with_reducible rfl)
             try simp only [Act.put,List.setIfInBounds_toArray,List.set_cons_zero,List.set_cons_succ]
             refine take_lit (i:=1) (v:= ?_) rfl (by kernel_rfl) (by kernel_rfl) (by kernel_rfl) (fun _ _ _ h=>h) (Or.inl ⟨by rfl,?hy1⟩) (by assumption) ?_
             case hy1=>(intro w hSw;(try dsimp only at hSw);go_simp;try with_reducible rfl)
             try simp only [Act.put,List.setIfInBounds_toArray,List.set_cons_zero,List.set_cons_succ]
             refine take_lit (i:=2) (v:= ?_) rfl (by kernel_rfl) (by kernel_rfl) (by kernel_rfl) (fun _ _ _ h=>h) (Or.inl ⟨by rfl,?hy2⟩) (by assumption) ?_
             case hy2=>(intro w hSw;(try dsimp only at hSw);go_simp;try with_reducible rfl)
             try simp only [Act.put,List.setIfInBounds_toArray,List.set_cons_zero,List.set_cons_succ]
             refine take_lit (i:=3) (v:= ?_) rfl (by kernel_rfl) (by kernel_rfl) (by kernel_rfl) (fun _ _ _ h=>h) (Or.inl ⟨by rfl,?hy3⟩) (by assumption) ?_
             case hy3=>(intro w hSw;(try dsimp only at hSw);go_simp;try with_reducible rfl)
             try simp only [Act.put,List.setIfInBounds_toArray,List.set_cons_zero,List.set_cons_succ]
             refine take_lit (i:=4) (v:= ?_) rfl (by kernel_rfl) (by kernel_rfl) (by kernel_rfl) (fun _ _ _ h=>h) (Or.inl ⟨by rfl,?hy4⟩) (by assumption) ?_
             case hy4=>(intro w hSw;(try dsimp only at hSw);go_simp;try with_reducible rfl)
             try simp only [Act.put,List.setIfInBounds_toArray,List.set_cons_zero,List.set_cons_succ]
             refine take_lit (i:=5) (v:= ?_) rfl (by kernel_rfl) (by kernel_rfl) (by kernel_rfl) (fun _ _ _ h=>h) (Or.inl ⟨by rfl,?hy5⟩) (by assumption) ?_
             case hy5=>(intro w hSw;(try dsimp only at hSw);go_simp;try with_reducible rfl)
             try simp only [Act.put,List.setIfInBounds_toArray,List.set_cons_zero,List.set_cons_succ]
             refine take_lit (i:=6) (v:= ?_) rfl (by kernel_rfl) (by kernel_rfl) (by kernel_rfl) (fun _ _ _ h=>h) (Or.inl ⟨by rfl,?hy6⟩) (by assumption) ?_
             case hy6=>(intro w hSw;(try dsimp only at hSw);go_simp;try with_reducible rfl)
             try simp only [Act.put,List.setIfInBounds_toArray,List.set_cons_zero,List.set_cons_succ]
             refine take_lit (i:=7) (v:= ?_) rfl (by kernel_rfl) (by kernel_rfl) (by kernel_rfl) (fun _ _ _ h=>h) (Or.inl ⟨by rfl,?hy7⟩) (by assumption) ?_
             case hy7=>(intro w hSw;(try dsimp only at hSw);go_simp;try with_reducible rfl)
             try simp only [Act.put,List.setIfInBounds_toArray,List.set_cons_zero,List.set_cons_succ]
             refine take_lit (i:=8) (v:= ?_) rfl (by kernel_rfl) (by kernel_rfl) (by kernel_rfl) (fun _ _ _ h=>h) (Or.inl ⟨by rfl,?hy8⟩) (by assumption) ?_
             case hy8=>(intro w hSw;(try dsimp only at hSw);go_simp;try with_reducible rfl)
             try simp only [Act.put,List.setIfInBounds_toArray,List.set_cons_zero,List.set_cons_succ]
             refine take_lit (i:=9) (v:= ?_) rfl (by kernel_rfl) (by kernel_rfl) (by kernel_rfl) (fun _ _ _ h=>h) (Or.inl ⟨by rfl,?hy9⟩) (by assumption) ?_
             case hy9=>(intro w hSw;(try dsimp only at hSw);go_simp;try with_reducible rfl)
             try simp only [Act.put,List.setIfInBounds_toArray,List.set_cons_zero,List.set_cons_succ]
             refine take_lit (i:=10) (v:= ?_) rfl (by kernel_rfl) (by kernel_rfl) (by kernel_rfl) (fun _ _ _ h=>h) (Or.inl ⟨by rfl,?hy10⟩) (by assumption) ?_
             case hy10=>(intro w hSw;(try dsimp only at hSw);go_simp;try with_reducible rfl)
             try simp only [Act.put,List.setIfInBounds_toArray,List.set_cons_zero,List.set_cons_succ]
             refine take_lit (i:=11) (v:= ?_) rfl (by kernel_rfl) (by kernel_rfl) (by kernel_rfl) (fun _ _ _ h=>h) (Or.inl ⟨by rfl,?hy11⟩) (by assumption) ?_
             case hy11=>(intro w hSw;(try dsimp only at hSw);go_simp;try with_reducible rfl)
             try simp only [Act.put,List.setIfInBounds_toArray,List.set_cons_zero,List.set_cons_succ]
             refine take_lit (i:=12) (v:= ?_) rfl (by kernel_rfl) (by kernel_rfl) (by kernel_rfl) (fun _ _ _ h=>h) (Or.inl ⟨by rfl,?hy12⟩) (by assumption) ?_
             case hy12=>(intro w hSw;(try dsimp only at hSw);go_simp;try with_reducible rfl)
             try simp only [Act.put,List.setIfInBounds_toArray,List.set_cons_zero,List.set_cons_succ]
             refine next_lit (i:=13) rfl (by kernel_rfl) (fun K hK=> ?_)
             go_simp
             refine HPu.out.mono ?_
             rintro e w3 ⟨v3,r3,rfl,hs3,ht3,ho3,hb3⟩
             obtain ⟨a3,c3,rfl,_⟩:=pcAt_of_owns ho3
             have KK:=HAfter.out w3 hb3
             refine hK.out _ _ KK (fun hHeld=> ?_)
             clear hK K hHeld
             try simp only [Act.put,List.setIfInBounds_toArray,List.set_cons_zero,List.set_cons_succ]
             refine take_lit (i:=14) (v:= ?_) rfl (by kernel_rfl) (by kernel_rfl) (by kernel_rfl) (fun _ _ _ h=>h) (Or.inl ⟨by rfl,?hy14⟩) (by assumption) ?_
             case hy14=>(intro w hSw;(try dsimp only at hSw);go_simp;try with_reducible rfl)
             try simp only [Act.put,List.setIfInBounds_toArray,List.set_cons_zero,List.set_cons_succ]
             refine take_lit (i:=15) (v:= ?_) rfl (by kernel_rfl) (by kernel_rfl) (by kernel_rfl) (fun _ _ _ h=>h) (Or.inl ⟨by rfl,?hy15⟩) (by assumption) ?_
             case hy15=>(intro w hSw;(try dsimp only at hSw);go_simp;try with_reducible rfl)
             try simp only [Act.put,List.setIfInBounds_toArray,List.set_cons_zero,List.set_cons_succ]
             refine take_lit (i:=16) (v:= ?_) rfl (by kernel_rfl) (by kernel_rfl) (by kernel_rfl) (fun _ _ _ h=>h) (Or.inl ⟨by rfl,?hy16⟩) (by assumption) ?_
             case hy16=>(intro w hSw;(try dsimp only at hSw);go_simp;try with_reducible rfl)
             try simp only [Act.put,List.setIfInBounds_toArray,List.set_cons_zero,List.set_cons_succ]
             refine take_lit (i:=17) (v:= ?_) rfl (by kernel_rfl) (by kernel_rfl) (by kernel_rfl) (fun _ _ _ h=>h) (Or.inl ⟨by rfl,?hy17⟩) (by assumption) ?_
             case hy17=>(intro w hSw;(try dsimp only at hSw);go_simp;try with_reducible rfl)
             try simp only [Act.put,List.setIfInBounds_toArray,List.set_cons_zero,List.set_cons_succ]
             refine wpAnyH_done (by kernel_rfl) ?_ _
             refine back_last (fun K hK=> ?_)
             have A3:=HA1.out.below hb3
             have fz3:=World.ownsRow.frozenAt A3.own j
             have x3:=KK.2.2.2
             have HS5:=hideg (HA1.out.set hjlt hb3 HB1.out.size ho3)
             have HB7:=hideg ((HB1.out.trans (hb3.mono HB1.out.size)).setCell (p:=⟨w.heap.size,j,none⟩) (Nat.le_refl _) (.slice a3 r3.length c3))
             have HI7:=hideg (HNX.out r3 hs3 ht3)
             have HR7:=hideg (ownsRow_setBox (j:=j) (u:= .slice a3 r3.length c3) (ownsRow_below HR1.out hb3) (show (Value.slice (some ⟨cb,cof,none⟩) L cc).ownBlock≠some w.heap.size from fun e=>by have:=(HR1.out.lt _ e).1;omega))
             clear A3 KK ho3 hb3 hs3 ht3 HNX
             go_simp
             refine hK.out _ _ (NoPanic.normal ?_)
             clear hK K
             go_wp2
             go_roundw
             case rel=>exact ⟨k+1,_,_,by omega,by go_num,HS5.out,HI7.out,HB7.out,HR7.out⟩
             case measure=>simp [intOf];omega
         · have hcase:chas=true /\ ¬cval<cst:=by
             unfold newsC at hw
             cases chas<;>simp at hw ⊢
             exact hw
           obtain ⟨rfl,hge⟩:=hcase
           have HI2:Hid (∀v,v<n -> Sm B (N v) /\ ∀t,tel (N v) t=if v<j then lessF (tel (T v) t) (tel (H v) t) else if v=j then putC (r.take (k+1)) t else none):=fun v hv=>⟨(HI.out v hv).1,fun t=>by
             have e:=HTK.out t
             rw [if_neg (fun h=>hw h.1)] at e
             rw [(HI.out v hv).2 t,e]⟩
           clear hA hb hro hw HTK hlt2
           go_wp2
           go_roundw
           case rel=>exact ⟨k+1,_,_,by omega,by go_num,HAA.out _,HI2.out,HBA.out _,HRA.out _⟩
           case measure=>simp [intOf];omega
       · have hkL:k=L:=by omega
         have HI2:Hid (∀v,v<n -> Sm B (N v) /\ ∀t,tel (N v) t=if v<j+1 then lessF (tel (T v) t) (tel (H v) t) else none):=fun v hv=>⟨(HI.out v hv).1,fun t=>by
           rw [(HI.out v hv).2 t]
           by_cases e:v=j
           · subst e
             rw [if_neg (by omega),if_pos rfl,if_pos (by omega),List.take_of_length_le (by rw [<- HL.out];omega),HRP.out]
           · by_cases h:v<j
             · rw [if_pos h,if_pos (by omega)]
             · rw [if_neg h,if_neg e,if_neg (by omega)]⟩
         subst hkL
         clear hA hb hro
         go_wp2
         go_roundw
         case rel=>exact ⟨j+1,_,_,by omega,by go_num,HA.out,HI2.out,HB.out⟩
         case measure=>simp [intOf];omega
   · have hjn:j=n:=by omega
     subst hjn
     have HA:=hideg hA
     have HB:=hideg hb
     have HI:Hid (∀v,v<j -> Sm B (N0 v) /\ ∀t,tel (N0 v) t=lessF (tel (T v) t) (tel (H v) t)):=fun v hv=>⟨(hI v hv).1,fun t=>by rw [(hI v hv).2 t,if_pos hv]⟩
     clear hA hb hI
     go_wp2
     go_ret
     exact ⟨_,_,rfl,HA.out,HI.out,HB.out⟩
end Go.Proofs.YtfphigmeppdocaaGreat.Q
namespace Go.Proofs.YtfphigmeppdocaaGreat
namespace Low
open Go.Conc Lo Go.RowKit
def DeadAt (w:World):Prop:=Lo.DeadAt w.heap
abbrev zqs:Question -> Bool:=Lo.zqs 52
theorem setCell_this {w:World} {B i:Nat} {v:Value} {c:Array Value} {t:TypeId} (h:w.heap[B]? =some (.cells c t)):(w.setCell ⟨B,i,none⟩ v).heap[B]? =some (.cells (c.setIfInBounds i v) t):=by
 simp [World.setCell,Array.getElem?_modify,h]
theorem setCell_other {w:World} {B b i:Nat} {v:Value} (h:B≠b):(w.setCell ⟨B,i,none⟩ v).heap[b]? =w.heap[b]? :=by
 simp only [World.setCell,Array.getElem?_modify]
 rw [if_neg h]
def WpF (P:Program) (f:FuncId) (c:Code) (Q:Exit -> Act -> World -> Prop) (a:Act) (w:World):Prop:=
 ∀(b:Frame),b.fn=f -> ∀(k:List Item) (cs:List Frame),∃e a' w',Q e a' w' /\ Arrives P (lone (b.at a (.code c::k)) cs w) b k cs e a' w'
theorem wpF_of {P:Program} {f:FuncId} {c:Code} {Q:Exit -> Act -> World -> Prop} {a:Act} {w:World} (h:c.wp P Q a w):WpF P f c Q a w:=fun b _ k cs=>h b k cs
theorem wpF_seq {P:Program} {f:FuncId} {x y:Code} {Q:Exit -> Act -> World -> Prop} {a:Act} {w:World} (h:WpF P f x (Exit.then (WpF P f y Q) Q) a w):WpF P f (.seq x y) Q a w:=by
 intro b hb k cs
 obtain ⟨e,a₁,w₁,hq,harr⟩:=h b hb (.code y::k) cs
 cases e with
 | normal=>
   obtain ⟨e₂,a₂,w₂,hq₂,harr₂⟩:=hq b hb k cs
   exact ⟨e₂,a₂,w₂,hq₂,.of_steps (.head step_seq harr) harr₂⟩
 | exit id=>exact ⟨_,a₁,w₁,hq,.of_steps (.one step_seq) (.pass (x:= .code y) rfl (fun _ _=> .inl (by simp)) harr)⟩
 | goto l=>exact ⟨_,a₁,w₁,hq,.of_steps (.one step_seq) (.pass (x:= .code y) rfl (fun _ _=> .inl (by simp)) harr)⟩
 | ret=>exact ⟨_,a₁,w₁,hq,.of_steps (.one step_seq) (.pass (x:= .code y) rfl (fun _ _=> .inl (by simp)) harr)⟩
 | panic ch=>exact ⟨_,a₁,w₁,hq,.of_steps (.one step_seq) (.pass (x:= .code y) rfl (fun _ _=> .inl (by simp)) harr)⟩
 | outgrown=>exact ⟨_,a₁,w₁,hq,.of_steps (.one step_seq) (.pass (x:= .code y) rfl (fun _ _=> .inl (by simp)) harr)⟩
theorem wpF_draw {P:Program} {f:FuncId} {id:Nat} {ops:Array Oper} {Q:Exit -> Act -> World -> Prop} {a:Act} {w:World}
   (h:wpOps P ops Q (Region.schedule (P.follows .mixedOrders) ops (w.tape w.drawn (.order f id))) a {w with drawn:=w.drawn+1 }):WpF P f (.region id ops true) Q a w:=by
 intro b hb k cs
 obtain ⟨e,a',w',q,r⟩:=wp_ops _ a _ h b k cs
 refine ⟨e,a',w',q,.of_steps (.one ?_) r⟩
 rw [step_region_draw,hb]
theorem calls_of_wpF {P:Program} {f:FuncId} {fn:Func} {c:Code} {args:Array Value} {w:World} {R:Ending -> World -> Prop}
   (hf:P.funcs[f]? =some fn) (hb:fn.body=some c)
   (h:WpF P f c (bodyPost P fn R) {tmps:=args++Array.replicate (fn.ntmps-args.size) undef,defers:=[] } w):
   Calls P f args w R:=by
 intro cs
 let b:Frame:={(default:Frame) with fn:=f,kind:= .normal }
 have henter:Frame.enter P f args .normal=
     b.at {tmps:=args++Array.replicate (fn.ntmps-args.size) undef,defers:=[] } [.code c]:=by
   simp [Frame.enter,Frame.at,hf,hb,b]
 obtain ⟨e,a',w',hq,harr⟩:=h b rfl [] cs
 rw [<- henter] at harr
 cases e with
 | normal=>
   obtain ⟨hd,v,hr,hR⟩:=hq
   exact ⟨.returned v,w',_,hR,Steps.trans harr (.one step_end),rfl,rfl,hd,rfl,fn,hf,hr⟩
 | ret=>
   obtain ⟨hd,v,hr,hR⟩:=hq
   obtain ⟨todo,hs⟩:=harr
   exact ⟨.returned v,w',_,hR,hs,rfl,rfl,hd,rfl,fn,hf,hr⟩
 | panic chain=>
   obtain ⟨hd,hR⟩:=hq
   obtain ⟨todo,hs⟩:=harr
   exact ⟨.panicked chain,w',_,hR,hs,rfl,rfl,hd,fn,hf⟩
 | exit id=>exact hq.elim
 | goto l=>exact hq.elim
 | outgrown=>exact ⟨.outgrown,w',b,hq,harr.resolve_left (by simp [b]),rfl,trivial⟩
theorem sched_any (t:Nat):Region.schedule (Seq.prog.follows .mixedOrders) opsS1 t=if t%2=0 then [0,1] else [1,0]:=by
 have h0:Region.schedule (Seq.prog.follows .mixedOrders) opsS1 t=Region.linearise .any opsS1 t:=by
   have:Seq.prog.follows .mixedOrders=true:=by kernel_rfl
   rw [this];rfl
 have h1:Region.linearise .any opsS1 t=(match ([0,1]:List Nat)[t%2]? with | some i=>Region.linearise.go .any opsS1 1 (t/2) ((Array.replicate 2 false).setIfInBounds i true) [i] | none=>[]):=by kernel_rfl
 have h:t%2=0 \/ t%2=1:=by omega
 rw [h0,h1]
 rcases h with h | h
 · rw [h,if_pos rfl]
   have:Region.linearise.go .any opsS1 1 (t/2) ((Array.replicate 2 false).setIfInBounds 0 true) [0]=(match ([1]:List Nat)[(t/2)%1]? with | some i=>Region.linearise.go .any opsS1 0 (t/2/1) (((Array.replicate 2 false).setIfInBounds 0 true).setIfInBounds i true) [i,0] | none=>[0]):=by kernel_rfl
   show Region.linearise.go .any opsS1 1 (t/2) ((Array.replicate 2 false).setIfInBounds 0 true) [0]=_
   rw [this,Nat.mod_one];rfl
 · rw [h,if_neg (by decide)]
   have:Region.linearise.go .any opsS1 1 (t/2) ((Array.replicate 2 false).setIfInBounds 1 true) [1]=(match ([0]:List Nat)[(t/2)%1]? with | some i=>Region.linearise.go .any opsS1 0 (t/2/1) (((Array.replicate 2 false).setIfInBounds 1 true).setIfInBounds i true) [i,1] | none=>[1]):=by kernel_rfl
   show Region.linearise.go .any opsS1 1 (t/2) ((Array.replicate 2 false).setIfInBounds 1 true) [1]=_
   rw [this,Nat.mod_one];rfl
end Low
end Go.Proofs.YtfphigmeppdocaaGreat
namespace Go.Proofs.YtfphigmeppdocaaGreat.Q
open Lo (Seq.prog)
open Go.RowKit
open Low (DeadAt zqs)
open Lo (tp Zt)
structure NwAt (W:World) (go n cap:Nat) (val:Nat -> Value) (N:Nat -> List P3):Prop where
 own:∃base,W.ownsRow base 41 1 (.slice (some ⟨go,0,none⟩) n cap) n ((List.range n).map val)
 inn:∀v,v<n -> ∃base,W.ownsRow base 54 3 (val v) (N v).length (enc3 (N v))
theorem AM.nw {W:World} {base go n:Nat} {val:Nat -> Value} {pcs:Nat -> List P3} (A:AM W base go n val pcs):NwAt W go n n val pcs:=⟨⟨base,A.own⟩,fun v hv=>⟨base,A.inn v hv⟩⟩
theorem NwAt.read {W:World} {go n cap:Nat} {val:Nat -> Value} {N:Nat -> List P3} (A:NwAt W go n cap val N):MsAt W (some ⟨go,0,none⟩) n N:=by
 obtain ⟨base,h⟩:=A.own
 refine .inr ⟨go,0,rfl,(World.ownsRow.lt h go rfl).2,fun v hv=> ?_⟩
 obtain ⟨b2,h2⟩:=A.inn v hv
 obtain ⟨a,c,h1,h2⟩:=pcAt_of_owns h2
 exact ⟨a,c,by rw [Nat.zero_add,World.ownsRow.cellAt h v (by omega)];simp [hv,h1],h2⟩
def encP (c:Pt):List Value:=[.int .i64 c.1,.int .i64 c.2.1,.int .i64 c.2.2.1,.int .i64 c.2.2.2.1,.int .i64 c.2.2.2.2]
def encPs (l:List Pt):List Value:=l.flatMap encP
theorem encPs_append (a b:List Pt):encPs (a++b)=encPs a++encPs b:=by simp [encPs]
theorem encPs_length (l:List Pt):(encPs l).length=l.length*5:=by
 induction l with
 | nil=>rfl
 | cons c l ih=>simp only [encPs,List.flatMap_cons,List.length_append,List.length_cons] at ih ⊢;rw [ih];simp [encP];omega
theorem encPs_get (l:List Pt) (j:Nat) (h:j<l.length):(encPs l)[j*5]? =some (.int .i64 (l.getD j pt0).1) /\ (encPs l)[j*5+1]? =some (.int .i64 (l.getD j pt0).2.1) /\ (encPs l)[j*5+2]? =some (.int .i64 (l.getD j pt0).2.2.1) /\ (encPs l)[j*5+3]? =some (.int .i64 (l.getD j pt0).2.2.2.1) /\ (encPs l)[j*5+4]? =some (.int .i64 (l.getD j pt0).2.2.2.2):=by
 induction l generalizing j with
 | nil=>simp at h
 | cons c l ih=>
   have e:encPs (c::l)= .int .i64 c.1:: .int .i64 c.2.1:: .int .i64 c.2.2.1:: .int .i64 c.2.2.2.1:: .int .i64 c.2.2.2.2::encPs l:=by simp [encPs,encP]
   rw [e]
   cases j with
   | zero=>exact ⟨rfl,rfl,rfl,rfl,rfl⟩
   | succ j=>
     have:=ih j (by simpa using h)
     rw [show (j+1)*5=j*5+1+1+1+1+1 by omega]
     simpa using this
theorem ptsAt_of_owns {w:World} {base e:Nat} {v:Value} {n:Nat} {l:List Pt} (h:w.ownsRow base e 5 v n (encPs l)):∃ao cap,v= .slice ao l.length cap /\ PtsAt w ao l:=by
 obtain ⟨h1,h2⟩:=h
 simp only [encPs_length] at h1
 have hn:n=l.length:=by omega
 subst hn
 rcases h2 with ⟨rfl,h0⟩ | ⟨g,cap,cur,rfl,hb,hh,h3,h4,h5,h6⟩
 · exact ⟨none,0,by rw [h0],.inl (List.eq_nil_of_length_eq_zero h0)⟩
 · have hown:w.ownsRow base e 5 (.slice (some ⟨g,0,none⟩) l.length cap) l.length (encPs l):=⟨by simp [encPs_length],.inr ⟨g,cap,cur,rfl,hb,hh,h3,h4,h5,h6⟩⟩
   refine ⟨_,cap,rfl,.inr ⟨g,0,rfl,(Array.getElem?_eq_some_iff.1 hh).1,fun j hj=> ?_⟩⟩
   obtain ⟨f0,f1,f2,f3,f4⟩:=encPs_get l j hj
   rw [Nat.zero_add,hown.cellAt (j*5) (by omega),hown.cellAt (j*5+1) (by omega),hown.cellAt (j*5+2) (by omega),hown.cellAt (j*5+3) (by omega),hown.cellAt (j*5+4) (by omega)]
   exact ⟨f0,f1,f2,f3,f4⟩
theorem sends_of {s:World} {go n nc bp:Nat} {val:Nat -> Value} {N:Nat -> List P3} {ps:List Pt} {pv:Value} {B:Int} (hB:B <= 400000) (hn:n <= 12) (hp:ps.length <= 100000) (A:NwAt s go n nc val N) (hP:s.ownsRow bp 130 5 pv ps.length (encPs ps)) (hG:∀π∈ps,GoodPt n π) (hS:∀v,v<n -> Sm B (N v)):
   ∃po pc,pv= .slice po ps.length pc /\ Lo.Sends s.heap (.slice (some ⟨go,0,none⟩) n nc) pv:=by
 obtain ⟨po,pc,rfl,hpt⟩:=ptsAt_of_owns hP
 have hms:=A.read
 refine ⟨po,pc,rfl,fun w hw=> ?_⟩
 by_cases hsz:s.heap.size <= w.heap.size
 · have hb:Below s.heap.size {w with heap:=s.heap } w:=⟨rfl,rfl,rfl,hsz,hw⟩
   have h1:MsAt {w with heap:=s.heap } (some ⟨go,0,none⟩) n N:=hms
   have h2:PtsAt {w with heap:=s.heap } po ps:=hpt
   refine (bsSend_any (some ⟨go,0,none⟩) po nc pc n N ps 0 1 B hB hn ⟨by omega,by omega⟩ hp w (h1.below hb) (h2.below hb) hG hS).mono ?_
   rintro e w' ⟨val,H,rfl,_⟩
   exact ⟨_,rfl,_,_,_,rfl⟩
 · exfalso
   have:=hw w.heap.size (by omega)
   rw [Array.getElem?_eq_none (Nat.le_refl _)] at this
   have h3:=Array.getElem?_eq_none_iff.1 this.symm
   omega
end Go.Proofs.YtfphigmeppdocaaGreat.Q
namespace Go.Proofs.YtfphigmeppdocaaGreat.Q
open Lo (Seq.prog)
open Go.RowKit
open Low (DeadAt zqs WpF wpF_of wpF_seq wpF_draw calls_of_wpF sched_any)
open Lo (tp Zt fS bodyS opsS0 opsS1 opsS3 opsS4 oS0 oS1 oS2 oB0 oB1 oX0 oX1 op1 agg0 clo evS)
section
variable {P:Program} {ops:Array Oper} {Q:Exit -> Act -> World -> Prop} {a:Act} {w w' :World} {i:Nat} {rest:List Nat} {o:Oper}
theorem ops_value {v:Value} (ho:ops[i]? =some o) (hw:Region.wanted o (yielded ops a.tmps)=true) (hr:(execOp a.eval o).run P w= .ok (.value v) w') (h:wpOps P ops Q rest (a.put o.dst v) w'):wpOps P ops Q (i::rest) a w:=by
 simp only [wpOps,ho]
 rw [if_pos hw]
 left
 unfold Oper.wp
 rw [hr]
 exact h
theorem ops_unw (ho:ops[i]? =some o) (hw:Region.wanted o (yielded ops a.tmps)=false) (h:wpOps P ops Q rest (a.put o.dst undef) w):wpOps P ops Q (i::rest) a w:=by
 simp only [wpOps,ho]
 rw [if_neg (by rw [hw];decide)]
 exact h
theorem ops_skip (ho:ops[i]? =some o) (hw:Region.wanted o (yielded ops a.tmps)=true) (hr:(execOp a.eval o).run P w= .ok .skip w') (h:wpOps P ops Q rest (a.put o.dst undef) w'):wpOps P ops Q (i::rest) a w:=by
 simp only [wpOps,ho]
 rw [if_pos hw]
 left
 unfold Oper.wp
 rw [hr]
 exact h
theorem ops_panic {v:Value} (ho:ops[i]? =some o) (hw:Region.wanted o (yielded ops a.tmps)=true) (hr:(execOp a.eval o).run P w= .halt (.panic v) w') (h:Q (.panic [{v,recovered:=false }]) a w'):wpOps P ops Q (i::rest) a w:=by
 simp only [wpOps,ho]
 rw [if_pos hw]
 left
 unfold Oper.wp
 rw [hr]
 exact h
theorem ops_enter {f:FuncId} {args:Array Value} {R:Ending -> World -> Prop} (ho:ops[i]? =some o) (hw:Region.wanted o (yielded ops a.tmps)=true) (hr:(execOp a.eval o).run P w= .ok (.enter f args) w') (hc:Calls P f args w' R) (h:∀e w'',R e w'' -> ∃v,e= .returned v /\ wpOps P ops Q rest (a.put o.dst v) w''):wpOps P ops Q (i::rest) a w:=by
 simp only [wpOps,ho]
 rw [if_pos hw]
 left
 unfold Oper.wp
 rw [hr]
 refine hc.mono ?_
 intro e w'' he
 obtain ⟨v,rfl,h2⟩:=h e w'' he
 exact h2
end
theorem setCell_here {w:World} {B i:Nat} {v:Value} {c:Array Value} {t:TypeId} (h:w.heap[B]? =some (.cells c t)):(w.setCell ⟨B,i,none⟩ v).heap[B]? =some (.cells (c.setIfInBounds i v) t):=by
 simp [World.setCell,Array.getElem?_modify,h]
structure LpI (w:World) (Bx W n:Nat) (N:Nat -> List P3) (ps:List Pt) (B:Int) (i:Nat) (σ:World):Prop where
 bel:Below w.heap.size w σ
 lo:w.heap.size <= Bx
 hi:Bx<σ.heap.size
 row:∃cur,σ.heap[Bx]? =some (.cells cur 99) /\ cur.size=W
 box:∀j,j<i -> ∃g base val H,σ.cell? ⟨Bx,j,none⟩=some (.slice (some ⟨g,0,none⟩) n n) /\ Bx<base /\ AM σ base g n val H /\ ∀v,v<n -> Sm (B+1000) (H v) /\ ∀t,tel (H v) t=sndF N (j:Int) (W:Int) ps ps.length v t
theorem LpI.step {w σ σ1:World} {Bx W n i:Nat} {N:Nat -> List P3} {ps:List Pt} {B:Int} {val:Nat -> Value} {H:Nat -> List P3} (I:LpI w Bx W n N ps B i σ) (hi:i<W) (hb:Below σ.heap.size σ σ1) (A:AM σ1 σ.heap.size σ.heap.size n val H) (hH:∀v,v<n -> Sm (B+1000) (H v) /\ ∀t,tel (H v) t=sndF N (i:Int) (W:Int) ps ps.length v t):
   LpI w Bx W n N ps B (i+1) (σ1.setCell ⟨Bx,i,none⟩ (.slice (some ⟨σ.heap.size,0,none⟩) n n)):=by
 obtain ⟨cur,hc,hs⟩:=I.row
 have hc1:σ1.heap[Bx]? =some (.cells cur 99):=by rw [hb.block _ I.hi];exact hc
 have hB1:=(I.bel.trans (hb.mono I.bel.size)).setCell (p:=⟨Bx,i,none⟩) I.lo (.slice (some ⟨σ.heap.size,0,none⟩) n n)
 have hrow:=setCell_here (i:=i) (v:=(.slice (some ⟨σ.heap.size,0,none⟩) n n)) hc1
 refine ⟨hB1,I.lo,(Array.getElem?_eq_some_iff.1 hrow).1,⟨_,hrow,by simpa using hs⟩,fun j hj=> ?_⟩
 by_cases e:j=i
 · subst e
   refine ⟨σ.heap.size,σ.heap.size,val,H,?_,I.hi,A.setFar I.hi,hH⟩
   simp [World.cell?,hrow,hs,hi]
 · obtain ⟨g,base,val2,H2,h1,h2,h3,h4⟩:=I.box j (by omega)
   refine ⟨g,base,val2,H2,?_,h2,(h3.below hb).setFar h2,h4⟩
   simp [World.cell?,hc] at h1
   simp only [World.cell?,hrow]
   simp [Ne.symm e,h1]
theorem act_ev (T:Array Value):(⟨T,[]⟩:Act).eval=evS T:=funext fun x=>by cases x<;>rfl
def heap7 (H:Array Obj):Array Obj:=((((((H.push (.cells #[] 99)).push (.cells #[] 101)).push (.cells #[] 3)).push (.cells (madeCells #[.slice none 0 0] 1) 99)).push (.cells #[] 104)).push (.cells #[] 141)).push (.cells #[] 3)
def w7 (w:World):World:={w with heap:=heap7 w.heap,drawn:=w.drawn+1 }
theorem w7_below (w:World):Below w.heap.size w (w7 w):=by
 refine ⟨rfl,rfl,rfl,by simp only [w7,heap7,Array.size_push];omega,fun k hk=> ?_⟩
 simp only [w7,heap7,Array.getElem?_push,Array.size_push]
 rw [if_neg (by omega),if_neg (by omega),if_neg (by omega),if_neg (by omega),if_neg (by omega),if_neg (by omega),if_neg (by omega)]
theorem w7_row (w:World):(w7 w).heap[w.heap.size+3]? =some (.cells #[.slice none 0 0] 99):=by
 have h:(madeCells #[.slice none 0 0] 1)=#[Value.slice none 0 0]:=by kernel_rfl
 simp only [w7,heap7,h]
 simp only [Array.getElem?_push,Array.size_push]
 simp
theorem w7_size (w:World):(w7 w).heap.size=w.heap.size+7:=by simp [w7,heap7]
theorem clo_run (x pv:Value) (w:World):(execOp ({tmps:=#[x,pv,.int .i64 1,undef,undef,undef,undef,undef],defers:=[] }:Act).eval oS2).run Seq.prog w= .ok (.value (clo x pv)) w:=by
 show Result.ok (Next.value (.func (.func 77) ((#[.tmp 0,.tmp 1,.tmp 2,.tmp 3,.tmp 4,.tmp 5,.tmp 6,.tmp 7]:Array Operand).map ({tmps:=#[x,pv,.int .i64 1,undef,undef,undef,undef,undef],defers:=[] }:Act).eval) ((#[]:Array Operand).map ({tmps:=#[x,pv,.int .i64 1,undef,undef,undef,undef,undef],defers:=[] }:Act).eval))) w=_
 simp only [List.map_toArray,List.map_cons,List.map_nil]
 rfl
theorem call_run (x pv u v:Value) (w:World):(execOp ({tmps:=#[x,pv,.int .i64 1,u,undef,undef,.bool false,v],defers:=[] }:Act).eval opsS4[7]).run Seq.prog w= .ok (.enter 77 #[x,pv,.int .i64 0,.int .i64 1]) w:=by
 rw [act_ev,Lo.call_send (o:=opsS4[7]) rfl]
 simp only [List.map_toArray,List.map_cons,List.map_nil]
 rfl
set_option maxRecDepth 100000 in
set_option maxHeartbeats 1000000 in
theorem bsSendAll_any {go n nc bp W:Nat} {val:Nat -> Value} {N:Nat -> List P3} {ps:List Pt} {pv:Value} {B:Int} (w:World) (hB:B <= 400000) (hn:n <= 12) (hW:1 <= W /\ W <= 1) (hp:ps.length <= 100000) (A:NwAt w go n nc val N) (hP:w.ownsRow bp 130 5 pv ps.length (encPs ps)) (hG:∀π∈ps,GoodPt n π) (hS:∀v,v<n -> Sm B (N v)):
   Calls Seq.prog 52 #[.slice (some ⟨go,0,none⟩) n nc,pv,.int .i64 W] w fun e w' =>(∃ao M,e= .returned (.slice ao W W) /\ BoxesAt w' ao W n M /\ (∀j,j<W -> ∀v,v<n -> Sm (B+1000) (M j v) /\ ∀t,tel (M j v) t=sndF N (j:Int) (W:Int) ps ps.length v t) /\ Below w.heap.size w w') \/ (¬Zt zqs w.tape /\ ∃ch,e= .panicked ch /\ DeadAt w'):=by
 obtain rfl:W=1:=by omega
 obtain ⟨po,pc,hpv,hsd⟩:=sends_of hB hn hp A hP hG hS
 obtain ⟨po',pc',hpv',hpt⟩:=ptsAt_of_owns hP
 rw [hpv] at hpv'
 simp only [Value.slice.injEq,true_and] at hpv'
 obtain ⟨rfl,rfl⟩:=hpv'
 obtain ⟨x,hx⟩:∃x,x=Value.slice (some ⟨go,0,none⟩) n nc:=⟨_,rfl⟩
 have b7:=w7_below w
 refine calls_of_wpF Lo.seq_sp rfl ?_
 rw [<- hx] at hsd ⊢
 show WpF Seq.prog 52 bodyS _ {tmps:=#[x,pv,.int .i64 1,undef,undef,undef,undef,undef],defers:=[] } w
 refine wpF_seq (wpF_of (wp_region ?_))
 show wpOps _ opsS0 _ [0,1,2] _ _
 refine ops_value (o:=oS0) rfl rfl rfl ?_
 show wpOps _ opsS0 _ [1,2] {tmps:=#[x,pv,.int .i64 1,undef,undef,undef,undef,undef],defers:=[] } w
 refine ops_unw (o:=oS1) rfl rfl ?_
 refine ops_value (o:=oS2) (v:=clo x pv) rfl rfl (clo_run x pv w) ?_
 refine wpF_seq (wpF_draw ?_)
 show wpOps Seq.prog opsS1 _ (Region.schedule (Seq.prog.follows .mixedOrders) opsS1 (w.tape w.drawn (.order 52 1))) {tmps:=#[x,pv,.int .i64 1,undef,undef,undef,undef,clo x pv],defers:=[] } {w with drawn:=w.drawn+1 }
 rw [sched_any]
 by_cases ht:w.tape w.drawn (.order 52 1)%2=0
 · rw [if_pos ht]
   refine ops_value (o:=oB1) rfl rfl rfl ?_
   refine ops_value (o:=oB0) rfl rfl rfl ?_
   refine wpF_of (wp_cond (t:=false) rfl ?_)
   refine wp_seq (wp_region ?_)
   show wpOps _ opsS4 _ [0,1,2,3,4,5,6,7,8,9] {tmps:=#[x,pv,.int .i64 1,undef,undef,undef,.bool false,clo x pv],defers:=[] } {w with drawn:=w.drawn+1 }
   obtain ⟨wb0,hwb0⟩:∃x,x=({w with drawn:=w.drawn+1 }:World):=⟨_,rfl⟩
   have hs0:wb0.heap.size=w.heap.size:=by rw [hwb0]
   rw [<- hwb0]
   refine ops_value (o:=opsS4[0]) (w':=wb0.alloc (.cells #[] 99)) rfl rfl rfl ?_
   refine ops_value (o:=opsS4[1]) (w':=(wb0.alloc (.cells #[] 99)).alloc (.cells #[] 101)) rfl rfl rfl ?_
   refine ops_value (o:=opsS4[2]) (w':=((wb0.alloc (.cells #[] 99)).alloc (.cells #[] 101)).alloc (.cells #[] 3)) rfl rfl rfl ?_
   obtain ⟨wb3,hwb3⟩:∃x,x=((wb0.alloc (.cells #[] 99)).alloc (.cells #[] 101)).alloc (.cells #[] 3):=⟨_,rfl⟩
   have hs3:wb3.heap.size=w.heap.size+3:=by rw [hwb3,<- hs0];simp
   rw [<- hwb3]
   show wpOps _ opsS4 _ [3,4,5,6,7,8,9] {tmps:=#[x,pv,.int .i64 1,undef,undef,undef,.bool false,clo x pv],defers:=[] } wb3
   refine ops_value (o:=opsS4[3]) (v:= .slice (some ⟨w.heap.size+3,0,none⟩) 1 1) (w':=wb3.alloc (.cells (madeCells #[.slice none 0 0] 1) 99)) rfl rfl (by
     rw [act_ev,<- hs3]
     exact Lo.made0 rfl rfl) ?_
   obtain ⟨wb4,hwb4⟩:∃x,x=wb3.alloc (.cells (madeCells #[.slice none 0 0] 1) 99):=⟨_,rfl⟩
   rw [<- hwb4]
   refine ops_value (o:=opsS4[4]) (w':=wb4.alloc (.cells #[] 104)) rfl rfl rfl ?_
   refine ops_value (o:=opsS4[5]) (w':=(wb4.alloc (.cells #[] 104)).alloc (.cells #[] 141)) rfl rfl rfl ?_
   refine ops_value (o:=opsS4[6]) (w':=((wb4.alloc (.cells #[] 104)).alloc (.cells #[] 141)).alloc (.cells #[] 3)) rfl rfl rfl ?_
   have e7:((wb4.alloc (.cells #[] 104)).alloc (.cells #[] 141)).alloc (.cells #[] 3)=w7 w:=by rw [hwb4,hwb3,hwb0];rfl
   rw [e7]
   show wpOps _ opsS4 _ [7,8,9] {tmps:=#[x,pv,.int .i64 1,.slice (some ⟨w.heap.size+3,0,none⟩) 1 1,undef,undef,.bool false,clo x pv],defers:=[] } (w7 w)
   clear e7 hwb4 hwb3 hwb0 hs3 hs0 wb4 wb3 wb0
   have hcl:=bsSend_any (some ⟨go,0,none⟩) po nc pc n N ps 0 1 B hB hn ⟨by omega,by omega⟩ hp (w7 w) (A.read.below b7) (hpt.below b7) hG hS
   refine ops_enter (o:=opsS4[7]) (args:=#[x,pv,.int .i64 0,.int .i64 1]) rfl rfl (call_run x pv _ _ _) (by rw [hx,hpv];exact hcl) ?_
   rintro e σ1 ⟨val1,H,rfl,A1,hH,hb⟩
   refine ⟨_,rfl,?_⟩
   show wpOps _ opsS4 _ [8,9] {tmps:=#[x,pv,.int .i64 1,.slice (some ⟨w.heap.size+3,0,none⟩) 1 1,.slice (some ⟨(w7 w).heap.size,0,none⟩) n n,undef,.bool false,clo x pv],defers:=[] } σ1
   have I0:LpI w (w.heap.size+3) 1 n N ps B 0 (w7 w):=⟨b7,by omega,by rw [w7_size];omega,⟨_,w7_row w,rfl⟩,fun j hj=>absurd hj (by omega)⟩
   have I:=I0.step (by omega) hb A1 hH
   have hc1:σ1.heap[w.heap.size+3]? =some (.cells #[.slice none 0 0] 99):=by rw [hb.block _ I0.hi];exact w7_row w
   refine ops_value (o:=opsS4[8]) rfl rfl (by rw [act_ev];exact Lo.idx_run (M:=w.heap.size+3) rfl rfl) ?_
   show wpOps _ opsS4 _ [9] {tmps:=#[x,pv,.int .i64 1,.slice (some ⟨w.heap.size+3,0,none⟩) 1 1,.slice (some ⟨(w7 w).heap.size,0,none⟩) n n,.pointer (some ⟨w.heap.size+3,0,none⟩),.bool false,clo x pv],defers:=[] } σ1
   refine ops_skip (o:=opsS4[9]) (w':=σ1.setCell ⟨w.heap.size+3,0,none⟩ (.slice (some ⟨(w7 w).heap.size,0,none⟩) n n)) rfl rfl (by
     rw [act_ev,Lo.put_run (M:=w.heap.size+3) (sa:=some ⟨(w7 w).heap.size,0,none⟩) (sl:=n) (sc:=n) rfl rfl rfl]
     simp [World.cell?,World.frozen?,hc1]) ?_
   refine wp_ret ?_
   obtain ⟨g,base,val2,H2,h1,_,h3,h4⟩:=I.box 0 (by omega)
   refine ⟨rfl,.slice (some ⟨w.heap.size+3,0,none⟩) 1 1,Lo.resS rfl,.inl ⟨_,fun _=>H2,rfl,.inr ⟨w.heap.size+3,0,rfl,I.hi,fun j hj=> ?_⟩,fun j hj=> ?_,I.bel⟩⟩
   · obtain rfl:j=0:=by omega
     exact ⟨_,_,h1,h3.read⟩
   · obtain rfl:j=0:=by omega
     exact h4
 · rw [if_neg ht]
   refine ops_value (o:=oB0) rfl rfl rfl ?_
   refine ops_value (o:=oB1) rfl rfl rfl ?_
   refine wpF_of (wp_cond (t:=true) rfl ?_)
   refine wp_region ?_
   show wpOps _ opsS3 _ [0,1] {tmps:=#[x,pv,.int .i64 1,undef,undef,undef,.bool true,clo x pv],defers:=[] } {w with drawn:=w.drawn+1 }
   refine ops_value (o:=oX0) rfl rfl rfl ?_
   refine ops_panic (o:=oX1) rfl rfl rfl ?_
   refine ⟨rfl,.inr ⟨fun hz=>ht ?_,_,rfl,w.heap,some ⟨go,0,none⟩,n,nc,po,ps.length,pc,?_,?_⟩⟩
   · rw [hz _ _ (by decide)]
   · rw [<- hx,<- hpv];rfl
   · rw [<- hx,<- hpv];exact hsd
end Go.Proofs.YtfphigmeppdocaaGreat.Q
namespace Go.Proofs.YtfphigmeppdocaaGreat.Q
open Lo (Seq.prog)
theorem pricZ_eq (p:Nat):pricZ p=priceOf p:=by funext a;rfl
theorem begF_eq (p:Nat) (fr:Int):begF (p:Int) fr=begG p fr:=by
 funext v
 unfold begF begG
 by_cases h:p=3
 · rw [if_pos h,if_pos (by omega)]
 · rw [if_neg h,if_neg (by omega)]
theorem XX_succ (g:Gr) (p:Nat) (fr:Int) (r:Nat) (t:Int):XX g p fr (r+1) t=rnd (arcsL t g.lives g.edges) (priceOf p) (decide (p=3)) (XX g p fr r t):=rfl
theorem plIs_iff {g:Gr} {p:Nat} {fr:Int} {t k:Nat} {x:List Int}:PlIs g p fr t x k↔x=XX g p fr k t /\ XX g p fr (k+1) t=XX g p fr k t /\ ∀j,j<k -> ¬XX g p fr (j+1) t=XX g p fr j t:=by
 unfold PlIs
 rw [pricZ_eq,begF_eq]
 constructor
 · intro h
   exact ⟨h.is,by rw [XX_succ];have:=h.stop;rw [h.is] at this;exact this,h.on⟩
 · rintro ⟨h1,h2,h3⟩
   exact ⟨h1,by rw [h1];exact h2,h3⟩
theorem least_nat (P:Nat -> Prop):∀m,P m -> ∃k,k <= m /\ P k /\ ∀j,j<k -> ¬P j:=by
 intro m
 induction m using Nat.strongRecOn with
 | _ m ih=>
   intro h
   by_cases h1:∃j,j<m /\ P j
   · obtain ⟨j,h2,h3⟩:=h1
     obtain ⟨k,k1,k2,k3⟩:=ih j h2 h3
     exact ⟨k,by omega,k2,k3⟩
   · exact ⟨m,Nat.le_refl _,h,fun j hj hp=>h1 ⟨j,hj,hp⟩⟩
theorem plF_is {g:Gr} (h0:gChk g=0) (p:Nat) (fr:Int) (t:Nat):∃k,plF g p fr t=(XX g p fr k t,k) /\ XX g p fr (k+1) t=XX g p fr k t /\ (∀j,j<k -> ¬XX g p fr (j+1) t=XX g p fr j t) /\ ∀d,XX g p fr (k+d) t=XX g p fr k t:=by
 have R:=runsX h0 p fr (t:Int)
 obtain ⟨k,_,k2,k3⟩:=least_nat (fun r=>XX g p fr (r+1) t=XX g p fr r t) g.lives.length (R.still (by omega))
 exact ⟨k,plF_eq (plIs_iff.2 ⟨rfl,k2,k3⟩),k2,k3,R.stays k2⟩
theorem allR_is {g:Gr} (h0:gChk g=0) {p:Nat} {fr:Int} {r:Nat} (hA:∀t:Int,XX g p fr (r+1) t=XX g p fr r t) (hB:r=0 \/ ∃t:Nat,(t:Int)<g.hor /\ ¬XX g p fr (r- 1+1) t=XX g p fr (r- 1) t):allR g p fr g.hor.toNat=(r:Int):=by
 have up:∀k:Nat,allR g p fr k <= (r:Int):=by
   intro k
   induction k with
   | zero=>simp [allR]
   | succ k ih=>
     rw [allR]
     obtain ⟨m,e,e1,e2,_⟩:=plF_is h0 p fr k
     rw [e]
     have:m <= r:=by
       rcases Nat.lt_or_ge r m with h | h
       · exact absurd (hA k) (e2 r h)
       · exact h
     simp only
     omega
 have lo:∀k t:Nat,t<k -> ((plF g p fr t).2:Int) <= allR g p fr k:=by
   intro k
   induction k with
   | zero=>intro t h;omega
   | succ k ih=>
     intro t h
     rw [allR]
     by_cases e:t=k
     · subst e;omega
     · have:=ih t (by omega);omega
 rcases hB with rfl | ⟨t,ht,hn⟩
 · have h1:=up g.hor.toNat
   have h2:∀k:Nat,0 <= allR g p fr k:=by
     intro k
     induction k with
     | zero=>simp [allR]
     | succ k ih=>rw [allR];omega
   have:=h2 g.hor.toNat
   omega
 · by_cases hr:r=0
   · subst hr;exact absurd (hA t) hn
   have h1:=up g.hor.toNat
   have h2:=lo g.hor.toNat t (by omega)
   obtain ⟨m,e,e1,e2,e3⟩:=plF_is h0 p fr t
   rw [e] at h2
   simp only at h2
   have:r <= m:=by
     rcases Nat.lt_or_ge m r with h | h
     · have h5:=e3 (r- 1+1-m)
       have h6:=e3 (r- 1-m)
       rw [show m+(r- 1+1-m)=r- 1+1 by omega] at h5
       rw [show m+(r- 1-m)=r- 1 by omega] at h6
       exact absurd (h5.trans h6.symm) hn
     · exact h
   omega
theorem XX_hi {g:Gr} (h0:gChk g=0) (p:Nat) (fr:Int) (r:Nat) (t:Int) {v:Nat} (hv:v<g.lives.length):(XX g p fr r t).getD v 0 <= 1099511627776:=by
 have h1:=(runsX h0 p fr t).down hv r 0
 have h2:=(first_hi (p:=p) (fr:=fr) (t:=t) (gChk_right h0).lvs v hv).1.2
 simp only [Nat.zero_add] at h1
 omega
theorem mcan_before:∀{l:List (Int×Int×Int)} {p:Int×Int×Int},MCan (l++[p]) -> ∀q∈l,q.2.1 <= p.1
 | [],_,_,q,hq=>by cases hq
 | a::l,p,h,q,hq=>by
   rcases List.mem_cons.1 hq with rfl | hq
   · exact mcan_low h p (by simp)
   · exact mcan_before h.2.2 q hq
theorem allP_is {g:Gr} (h0:gChk g=0) (p:Nat) (fr:Int) {v:Nat} (hv:v<g.lives.length):∀k:Nat,MCan (allP g p fr v k) /\ (∀q∈allP g p fr v k,q.2.1 <= (k:Int) /\ 0 <= q.1) /\ ∀t:Int,tel (allP g p fr v k) t=if 0 <= t /\ t<(k:Int) then optI ((plF g p fr t.toNat).1.getD v 0) else none
 | 0=>⟨trivial,fun q hq=>(by cases hq),fun t=>by rw [if_neg (by omega)];rfl⟩
 | k+1=>by
   obtain ⟨h1,h2,h3⟩:=allP_is h0 p fr hv k
   rw [allP]
   obtain ⟨m,e,_⟩:=plF_is h0 p fr k
   have hhi:(plF g p fr k).1.getD v 0 <= 1099511627776:=by rw [e];exact XX_hi h0 p fr m k hv
   have ek:∀t:Int,t=(k:Int) -> (plF g p fr t.toNat).1.getD v 0=(plF g p fr k).1.getD v 0:=fun t ht=>by rw [ht,Int.toNat_natCast]
   generalize hx:(plF g p fr k).1.getD v 0=x at*
   generalize allP g p fr v k=l at*
   by_cases hi:x=1099511627776
   · rw [oneP_skip hi]
     refine ⟨h1,fun q hq=>by have:=h2 q hq;omega,fun t=> ?_⟩
     rw [h3 t]
     by_cases e1:0 <= t /\ t<(k:Int)
     · rw [if_pos e1,if_pos (by omega)]
     · rw [if_neg e1]
       by_cases e2:t=(k:Int)
       · rw [if_pos (by omega),ek t e2,hi];rfl
       · rw [if_neg (by omega)]
   · have hxs:optI x=some x:=by unfold optI;rw [if_pos (by omega)]
     have new:MCan (l++[((k:Int),(k:Int)+1,x)]) -> (MCan (l++[((k:Int),(k:Int)+1,x)]) /\ (∀q∈l++[((k:Int),(k:Int)+1,x)],q.2.1 <= ((k+1:Nat):Int) /\ 0 <= q.1) /\ ∀t:Int,tel (l++[((k:Int),(k:Int)+1,x)]) t=if 0 <= t /\ t<((k+1:Nat):Int) then optI ((plF g p fr t.toNat).1.getD v 0) else none):=by
       intro hm
       refine ⟨hm,fun q hq=> ?_,fun t=> ?_⟩
       · rw [List.mem_append,List.mem_singleton] at hq
         rcases hq with hq | rfl
         · have:=h2 q hq;omega
         · simp only;omega
       · by_cases e2:t=(k:Int)
         · have i1:inP ((k:Int),(k:Int)+1,x) t=true:=(inP_iff _ _).2 (by simp only;omega)
           rw [tel_append,h3 t,if_neg (show ¬(0 <= t /\ t<(k:Int)) by omega),tel_cons,i1,if_pos (show 0 <= t /\ t<((k+1:Nat):Int) by omega),ek t e2,hxs]
           rfl
         · have i1:inP ((k:Int),(k:Int)+1,x) t=false:=by rw [<- Bool.not_eq_true,inP_iff];simp only;omega
           rw [tel_append,h3 t,tel_cons,i1]
           by_cases e1:0 <= t /\ t<(k:Int)
           · rw [if_pos e1,if_pos (show 0 <= t /\ t<((k+1:Nat):Int) by omega)]
             cases optI ((plF g p fr t.toNat).1.getD v 0)<;>rfl
           · rw [if_neg e1,if_neg (show ¬(0 <= t /\ t<((k+1:Nat):Int)) by omega)]
             rfl
     rcases List.eq_nil_or_concat l with rfl | ⟨l',q,hlq⟩
     · rw [oneP_nil hi]
       refine new ?_
       rw [mcan_snoc]
       exact ⟨trivial,by simp only;omega,fun q hq=>by simp at hq⟩
     · rw [List.concat_eq_append] at hlq
       subst hlq
       obtain ⟨qf,qt,qx⟩:=q
       have hq:=h2 (qf,qt,qx) (by simp)
       simp only at hq
       by_cases hc:qt=(k:Int) /\ qx=x
       · obtain ⟨rfl,rfl⟩:=hc
         rw [oneP_more hi]
         have hall:=h1
         rw [mcan_snoc] at h1
         refine ⟨?_,fun q hq=> ?_,fun t=> ?_⟩
         · rw [mcan_snoc]
           refine ⟨h1.1,by have:=h1.2.1;simp only at this ⊢;omega,fun q hq=> ?_⟩
           have:=h1.2.2 q hq
           unfold Fol at this ⊢
           exact this
         · rw [List.mem_append,List.mem_singleton] at hq
           rcases hq with hq | rfl
           · have:=h2 q (by simp [hq]);omega
           · simp only;have:=h2 _ (List.mem_append_right l' (List.mem_singleton.2 rfl));simp only at this;omega
         · have h4:=h3 t
           have hpos:=h1.2.1
           simp only at hpos
           by_cases e2:t=(k:Int)
           · have hlow:tel l' t=none:=by
               refine tel_none (fun q hq=> ?_)
               have:=mcan_before hall q hq
               simp only at this
               rw [<- Bool.not_eq_true,inP_iff]
               omega
             have i1:inP (qf,(k:Int)+1,qx) t=true:=(inP_iff _ _).2 (by simp only;omega)
             rw [tel_append,hlow,tel_cons,i1,if_pos (show 0 <= t /\ t<((k+1:Nat):Int) by omega),ek t e2,hxs]
             rfl
           · have e3:inP (qf,(k:Int)+1,qx) t=inP (qf,(k:Int),qx) t:=by
               cases h5:inP (qf,(k:Int),qx) t with
               | true=>rw [inP_iff] at h5 ⊢;simp only at h5 ⊢;omega
               | false=>
                 rw [<- Bool.not_eq_true,inP_iff] at h5 ⊢
                 simp only at h5 ⊢;omega
             rw [tel_append,tel_cons] at h4
             rw [tel_append,tel_cons,e3,h4]
             by_cases e1:0 <= t /\ t<(k:Int)
             · rw [if_pos e1,if_pos (show 0 <= t /\ t<((k+1:Nat):Int) by omega)]
             · rw [if_neg e1,if_neg (show ¬(0 <= t /\ t<((k+1:Nat):Int)) by omega)]
       · rw [oneP_new hi hc]
         refine new ?_
         rw [mcan_snoc]
         refine ⟨h1,by simp only;omega,fun q hq=> ?_⟩
         rw [List.getLast?_append,List.getLast?_singleton] at hq
         simp only [Option.some_or,Option.some.injEq] at hq
         subst hq
         unfold Fol
         simp only
         by_cases e:qt=(k:Int)
         · exact .inr ⟨e,fun h=>hc ⟨e,h⟩⟩
         · exact .inl (by omega)
open Go.RowKit
def frstM (g:Gr) (p:Nat) (fr:Int) (v:Nat):List P3:=if p=3 then [((g.lives.getD v (0,0)).1,(g.lives.getD v (0,0)).2,(v:Int))] else if (v:Int)=fr then [((g.lives.getD v (0,0)).1,(g.lives.getD v (0,0)).2,0)] else []
theorem frst_told {g:Gr} (h0:gChk g=0) (p:Nat) (fr:Int):ToldIs g p fr 0 (frstM g p fr) /\ ∀v,v<g.lives.length -> Sm 12 (frstM g p fr v):=by
 have R:=gChk_right h0
 have hn:=R.lvs
 have hor:=R.hor
 have life:∀v,v<g.lives.length -> (0 <= (g.lives.getD v (0,0)).1 /\ (g.lives.getD v (0,0)).1<(g.lives.getD v (0,0)).2 /\ (g.lives.getD v (0,0)).2 <= 100):=fun v hv=>by
   have e:g.lives.getD v (0,0)=g.lives[v]:=by rw [List.getD_eq_getElem?_getD,List.getElem?_eq_getElem hv];rfl
   rw [e]
   have:=R.life _ (List.getElem_mem hv)
   omega
 have one:∀v (x:Int),v<g.lives.length -> 0 <= x -> x <= 12 -> Sm 12 [((g.lives.getD v (0,0)).1,(g.lives.getD v (0,0)).2,x)]:=fun v x hv h1 h2=>by
   have:=life v hv
   refine ⟨⟨by simp only;omega,fun q hq=>by simp at hq,trivial⟩,fun q hq=> ?_,fun q hq=> ?_⟩
   · rw [List.mem_singleton] at hq;subst hq;simp only;omega
   · rw [List.mem_singleton] at hq;subst hq;simp only;omega
 have sm:∀v,v<g.lives.length -> Sm 12 (frstM g p fr v):=fun v hv=>by
   unfold frstM
   split
   · exact one v v hv (by omega) (by omega)
   · split
     · exact one v 0 hv (by omega) (by omega)
     · exact sm_nil 12
 refine ⟨fun v hv=>⟨(sm v hv).canon,fun t=> ?_⟩,sm⟩
 have e:(XX g p fr 0 t).getD v 0=if (aliveL t g.lives).getD v false=true then begG p fr v else 1099511627776:=firstL_getD _ _ v (by rw [aliveL_length];exact hv)
 have ha:(aliveL t g.lives).getD v false=true↔(g.lives.getD v (0,0)).1 <= t /\ t<(g.lives.getD v (0,0)).2:=by
   have h1:=aliveB_at t g.lives v hv
   unfold aliveB at h1
   rw [Int.toNat_natCast] at h1
   rw [h1,hasB_iff,List.getD_eq_getElem?_getD,List.getElem?_eq_getElem hv]
   rfl
 have tl:∀x:Int,tel [((g.lives.getD v (0,0)).1,(g.lives.getD v (0,0)).2,x)] t=if (aliveL t g.lives).getD v false=true then some x else none:=fun x=>by
   rw [tel_cons,tel_nil]
   by_cases hx:(g.lives.getD v (0,0)).1 <= t /\ t<(g.lives.getD v (0,0)).2
   · rw [if_pos (ha.2 hx),(inP_iff _ _).2 hx];rfl
   · rw [if_neg (fun h=>hx (ha.1 h)),show inP ((g.lives.getD v (0,0)).1,(g.lives.getD v (0,0)).2,x) t=false from by rw [<- Bool.not_eq_true,inP_iff];exact hx];rfl
 show tel (frstM g p fr v) t=optI ((XX g p fr 0 t).getD v 0)
 rw [e]
 unfold frstM begG
 by_cases h3:p=3
 · rw [if_pos h3,tl,if_pos h3]
   split
   · unfold optI;rw [if_pos (by omega)]
   · rfl
 · rw [if_neg h3,if_neg h3]
   unfold fromF
   by_cases hf:(v:Int)=fr
   · rw [if_pos hf,tl,if_pos hf]
     split<;>rfl
   · rw [if_neg hf,if_neg hf,tel_nil]
     split<;>rfl
theorem stopHereB {p:Prop} (h:Hid p):p:=h
theorem cell_newB {W:World} {cs:Array Value} {T:TypeId} {b j:Nat} {x:Value} (hb:b=W.heap.size) (hx:cs[j]? =some x):(W.alloc (.cells cs T)).cell? ⟨b,j,none⟩=some x:=by subst hb;simp [hx]
theorem one_piece (W:World) (f t x:Int):(W.alloc (.cells #[.int .i64 f,.int .i64 t,.int .i64 x] 54)).ownsRow W.heap.size 54 3 (.slice (some ⟨W.heap.size,0,none⟩) 1 1) 1 (enc3 [(f,t,x)]):=
 ⟨by simp [enc3,flat3],.inr ⟨W.heap.size,1,#[.int .i64 f,.int .i64 t,.int .i64 x],rfl,Nat.le_refl _,heap_alloc_new W _,Nat.le_refl _,by unfold maxLen;omega,rfl,by simp [enc3,flat3]⟩⟩
set_option maxRecDepth 100000 in
set_option maxHeartbeats 1000000 in
theorem bsFirst_any (g:Gr) (la ea:Option Addr) (lc ec p:Nat) (fr:Int) (w:World) (hG:GAt w la ea g) (h0:gChk g=0):
   Calls Seq.prog 49 #[.agg #[.int .i64 g.hor,.slice la g.lives.length lc,.slice ea g.edges.length ec],.int .i64 p,.int .i64 fr] w fun r w' =>∃go val T,r= .returned (.slice (some ⟨go,0,none⟩) g.lives.length g.lives.length) /\ AM w' w.heap.size go g.lives.length val T /\ (∀v,v<g.lives.length -> T v=frstM g p fr v) /\ Below w.heap.size w w':=by
 obtain ⟨i1,hi',hy0,hy1,hy2⟩:=info_parts Tryz.infoPcs
 have hn12:=(gChk_right h0).lvs
 obtain ⟨w1,hw1⟩:∃x,x=w.alloc (.cells #[.int .i64 g.hor,.slice la g.lives.length lc,.slice ea g.edges.length ec] 25):=⟨_,rfl⟩
 have B1:GBox w w1 w.heap.size g la ea lc ec:=by rw [hw1];exact gbox_start w g la ea lc ec _
 have g1:=B1.c1
 have hs1:w1.heap.size=w.heap.size+1:=by rw [hw1];simp
 have HG:=hideg hG
 have HB1:=hideg B1
 have hw1s:=hw1.symm
 clear hG h0 hw1 B1
 go_enter Seq.func49,Tryz.ntmps49
 go_wp2_with (at_make;refine wpList_make_full _ rfl _ _ 99 rfl w1.heap.size 41 i1 (.slice none 0 0) 1 ((Seq.pu 99).trans Tryz.underlying99) hi' hy0 hy1 .i64 .i64 _ _ g.lives.length rfl rfl rfl rfl (by rw [hy2];omega) (by unfold maxLen;omega) (by omega) ?_;intro w0 hown0 hgrow0;refine stopHereB ?_)
 refine hideg ?_
 have HA0:=hideg (am_start hown0)
 have hb0:Below w1.heap.size w1 w0:=(Below.refl w1.heap.size w1).grown hgrow0 (Nat.le_refl _) (fun k hk=>by cases hk)
 have B0:=HB1.out.below hb0
 have g1':=B0.c1
 have HB0:=hideg hb0
 clear hown0 hgrow0 g1 hw1s hb0
 go_wp2_with fail
 clear g1' B0
 go_loopw [17] (fun i wr=>∃(k:Nat) (val:Nat -> Value) (T:Nat -> List P3),k <= g.lives.length /\ i= .int .i64 k /\ AM wr w1.heap.size w1.heap.size g.lives.length val T /\ (∀v,v<g.lives.length -> T v=if v<k then frstM g p fr v else []) /\ Below w1.heap.size w1 wr) (fun i _=>g.lives.length-(intOf i).toNat)
 case atStart=>exact ⟨0,_,_,Nat.zero_le _,rfl,HA0.out,fun v hv=>by simp,HB0.out⟩
 case round=>
   clear HA0 HB0
   obtain ⟨k,val,T,hk,rfl,hA,hI,hb⟩:=hrel
   by_cases hkl:k<g.lives.length
   · have hki:(k:Int)<(g.lives.length:Int):=by omega
     have hkw:IntKind.i64.wrap ((k:Int)+1)=(k:Int)+1:=wrap_nr _ (by omega) (by omega)
     have BR:=HB1.out.below hb
     obtain ⟨lb,lof,rfl,hlb,l0,l1⟩:∃b off,la=some ⟨b,off,none⟩ /\ b<wr.heap.size /\ (wr.cell? ⟨b,off+k*2,none⟩=some (.int .i64 g.lives[k].1) /\ wr.cell? ⟨b,off+k*2+1,none⟩=some (.int .i64 g.lives[k].2)):=by
       rcases (HG.out.below BR.bel).lv with h0 | ⟨b,off,rfl,hbr,hc⟩
       · rw [h0] at hkl;simp at hkl
       exact ⟨b,off,rfl,hbr,IvAt.get hkl hc⟩
     have hgd:g.lives.getD k (0,0)=g.lives[k]:=by rw [List.getD_eq_getElem?_getD,List.getElem?_eq_getElem hkl];rfl
     have HF:Hid (frstM g p fr k=if p=3 then [(g.lives[k].1,g.lives[k].2,(k:Int))] else if (k:Int)=fr then [(g.lives[k].1,g.lives[k].2,0)] else []):=by show _=_;unfold frstM;rw [hgd]
     have HA:=hideg hA
     have HI:=hideg hI
     have HB:=hideg hb
     have hsz:=hb.size
     generalize g.lives[k].1=f1 at*
     generalize g.lives[k].2=f2 at*
     obtain ⟨wa,hwa⟩:∃x,x=wr.alloc (.cells #[.int .i64 f1,.int .i64 f2] 95):=⟨_,rfl⟩
     have hba:Below wr.heap.size wr wa:=by rw [hwa];exact gal wr _
     have y0:wa.cell? ⟨wr.heap.size,0,none⟩=some (.int .i64 f1):=by rw [hwa];exact cell_newB rfl rfl
     have y1:wa.cell? ⟨wr.heap.size,1,none⟩=some (.int .i64 f2):=by rw [hwa];exact cell_newB rfl rfl
     have HNo:Hid (frstM g p fr k=[] -> ∃val' T',AM wa w1.heap.size w1.heap.size g.lives.length val' T' /\ (∀v,v<g.lives.length -> T' v=if v<k+1 then frstM g p fr v else []) /\ Below w1.heap.size w1 wa):=by
       intro h0
       refine ⟨val,T,HA.out.below hba,fun v hv=> ?_,HB.out.trans (hba.mono HB.out.size)⟩
       rw [HI.out v hv]
       by_cases e:v=k
       · subst e;rw [if_neg (by omega),if_pos (by omega),h0]
       · by_cases e2:v<k
         · rw [if_pos e2,if_pos (by omega)]
         · rw [if_neg e2,if_neg (by omega)]
     have HYes:Hid (∀x:Int,frstM g p fr k=[(f1,f2,x)] -> ∃val' T',AM ((wa.alloc (.cells #[.int .i64 f1,.int .i64 f2,.int .i64 x] 54)).setCell ⟨w1.heap.size,k,none⟩ (.slice (some ⟨wa.heap.size,0,none⟩) 1 1)) w1.heap.size w1.heap.size g.lives.length val' T' /\ (∀v,v<g.lives.length -> T' v=if v<k+1 then frstM g p fr v else []) /\ Below w1.heap.size w1 ((wa.alloc (.cells #[.int .i64 f1,.int .i64 f2,.int .i64 x] 54)).setCell ⟨w1.heap.size,k,none⟩ (.slice (some ⟨wa.heap.size,0,none⟩) 1 1))):=by
       intro x h0
       have hb2:Below wr.heap.size wr (wa.alloc (.cells #[.int .i64 f1,.int .i64 f2,.int .i64 x] 54)):=ptg hba (gal wa _)
       refine ⟨_,_,AM.set HA.out hkl hb2 HB.out.size (r:=[(f1,f2,x)]) (owns_base2 (one_piece wa f1 f2 x) hba.size),fun v hv=> ?_,(HB.out.trans (hb2.mono HB.out.size)).setCell (p:=⟨w1.heap.size,k,none⟩) (Nat.le_refl _) _⟩
       by_cases e:v=k
       · subst e;rw [updF_same,if_pos (by omega),h0]
       · rw [updF_far _ _ e,HI.out v hv]
         by_cases e2:v<k
         · rw [if_pos e2,if_pos (by omega)]
         · rw [if_neg e2,if_neg (by omega)]
     have hck:=fun o=>(HA.out.below (ptg hba (gal wa o))).out hkl
     have hfz:=fun o=>World.ownsRow.frozenAt (ownsRow_below hA.own (ptg hba (gal wa o))) k
     rw [hs1] at hck hfz HYes
     have hwas:=hwa.symm
     clear hA hI hb BR hwa hba hgd
     by_cases p3:p=3
     · subst p3
       have HE:=hideg (HYes.out (k:Int) (by rw [HF.out,if_pos rfl]))
       go_wp2_with fail
       obtain ⟨val',T',a1,a2,a3⟩:=HE.out
       exact ⟨⟨k+1,val',T',by omega,by go_num,by rw [hs1];exact a1,a2,by rw [hs1];exact a3⟩,by simp [intOf];omega⟩
     · have p3i:((p:Int)==3)=false:=by simp;omega
       by_cases pf:(k:Int)=fr
       · have HE:=hideg (HYes.out 0 (by rw [HF.out,if_neg p3,if_pos pf]))
         have pfi:((k:Int)==fr)=true:=by simpa using pf
         clear pf
         go_wp2_with fail
         obtain ⟨val',T',a1,a2,a3⟩:=HE.out
         exact ⟨⟨k+1,val',T',by omega,by go_num,by rw [hs1];exact a1,a2,by rw [hs1];exact a3⟩,by simp [intOf];omega⟩
       · have HE:=hideg (HNo.out (by rw [HF.out,if_neg p3,if_neg pf]))
         have pfi:((k:Int)==fr)=false:=by simpa using pf
         clear pf
         go_wp2_with fail
         obtain ⟨val',T',a1,a2,a3⟩:=HE.out
         exact ⟨⟨k+1,val',T',by omega,by go_num,a1,a2,a3⟩,by simp [intOf];omega⟩
   · have hke:k=g.lives.length:=by omega
     subst hke
     have HA:=hideg hA
     have HB:=hideg (HB1.out.below hb).bel
     have HI:Hid (∀v,v<g.lives.length -> T v=frstM g p fr v):=fun v hv=>by rw [hI v hv,if_pos hv]
     have HW:=hideg HB1.out.bel.size
     clear hA hb hI
     go_wp2
     go_ret
     exact ⟨w.heap.size+1,_,_,rfl,by rw [<- hs1];exact HA.out.base HW.out,HI.out,HB.out⟩
set_option maxRecDepth 100000 in
set_option maxHeartbeats 1000000 in
theorem cloneV_any (base go n cap:Nat) (val:Nat -> Value) (T:Nat -> List P3) (w:World) (hA:AM w base go n val T) (hn:n <= 12):
   Calls Seq.prog 51 #[.slice (some ⟨go,0,none⟩) n cap] w fun e w' =>∃g2 c2,e= .returned (.slice (some ⟨g2,0,none⟩) n c2) /\ w'.ownsRow w.heap.size 41 1 (.slice (some ⟨g2,0,none⟩) n c2) n ((List.range n).map val) /\ Below w.heap.size w w':=by
 obtain ⟨i0,hi,hz0,hz1,hz2⟩:=info_parts Tryz.infoPcs
 have q22:∀(w:World) (a:Option Addr) (n c n' c' :Nat),(binOp .eql 99 (.slice a n c) (.slice none n' c')).run Seq.prog w= .ok (.bool a.isNone) w:=fun w a n c n' c' =>Lib.run_eql_slice_nil w _ _ a n c n' c' ((Seq.pu 99).trans Tryz.underlying99)
 have hc:∀o,∀j u,((List.range n).map val)[j]? =some u -> (w.alloc o).cell? ((⟨go,0,none⟩:Addr).add j)=some u:=fun o j u h=>by
   have hj:j<n:=by have:=(List.getElem?_eq_some_iff.1 h).1;simpa using this
   have e:u=val j:=by simp [hj] at h;exact h.symm
   subst e
   have:=(hA.below (gal w o)).out hj
   by_cases h0:j=0
   · subst h0;simpa [Addr.add] using this
   · simpa [Addr.add,h0] using this
 have HC:=hideg hc
 have hone:∀u∈(List.range n).map val,u.oneCell' =true:=by
   intro u hu
   rw [List.mem_map] at hu
   obtain ⟨z,hz,rfl⟩:=hu
   obtain ⟨a,c,h1,_⟩:=pcAt_of_owns (hA.inn z (List.mem_range.1 hz))
   rw [h1];rfl
 have HEL:Hid (((List.range n).map val).length=n*1):=by show _=_;simp
 have HONE:=hideg hone
 clear hc hone hA
 go_enter Seq.func51,Tryz.ntmps51
 go_wp2_with (at_builtin;refine wpList_append_own _ rfl _ _ 99 rfl w.heap.size 41 i0 (.slice none 0 0) 1 24 ((Seq.pu 99).trans Tryz.underlying99) hi hz0 hz1 hz2 rfl (by decide) _ _ _ rfl (World.ownsRow_made w #[] 0 (Nat.le_refl _) (Nat.zero_le _) rfl) ⟨go,0,none⟩ n cap ((List.range n).map val) rfl HEL.out (HC.out _) HONE.out (by unfold maxLen;omega) (by omega) (by simp) ?_;intro v' w1 hown hgrow hnil)
 have hb:Below w.heap.size w w1:=((Below.refl _ w).alloc (Nat.le_refl _) _).grown hgrow (by simp) (fun k hk=>by cases hk;exact Nat.le_refl _)
 have R:w1.ownsRow w.heap.size 41 1 v' n ((List.range n).map val):=by simpa using hown
 have hno:v' ≠ .slice none 0 0:=fun e=>by have:=(hnil.1 e).1;cases this
 obtain ⟨g2,c2,rfl⟩:∃g2 c2,v' = .slice (some ⟨g2,0,none⟩) n c2:=by
   rcases R.2 with ⟨h,_⟩ | ⟨g2,c2,cur,h,_⟩
   · exact absurd h hno
   · exact ⟨g2,c2,h⟩
 clear hown hgrow hnil hno
 go_wp2
 go_ret
 exact ⟨g2,c2,rfl,R,hb⟩
theorem alive_out {g:Gr} (h0:gChk g=0) {t:Int} (ht:t<0 \/ g.hor <= t) (v:Nat):(aliveL t g.lives).getD v false=false:=by
 have R:=gChk_right h0
 by_cases hv:v<g.lives.length
 · have h1:=aliveB_at t g.lives v hv
   unfold aliveB at h1
   rw [Int.toNat_natCast] at h1
   rw [h1]
   have:=R.life _ (List.getElem_mem hv)
   exact hasB_no (by omega)
 · rw [List.getD_eq_getElem?_getD,List.getElem?_eq_none (by rw [aliveL_length];omega)];rfl
theorem arcs_out {g:Gr} (h0:gChk g=0) {t:Int} (ht:t<0 \/ g.hor <= t):arcsL t g.lives g.edges=[]:=by
 rw [List.eq_nil_iff_forall_not_mem]
 intro a ha
 obtain ⟨e,_,l,_,_,_,h1,_⟩:=(mem_arcs h0).1 ha
 unfold aliveB at h1
 rw [alive_out h0 ht] at h1
 cases h1
theorem XX_out {g:Gr} (h0:gChk g=0) {t:Int} (ht:t<0 \/ g.hor <= t) (p:Nat) (fr:Int):∀r,XX g p fr r t=XX g p fr 0 t
 | 0=>rfl
 | r+1=>by
   have ih:=XX_out h0 ht p fr r
   unfold XX at ih ⊢
   rw [arcs_out h0 ht] at ih ⊢
   show rnd [] (priceOf p) (decide (p=3)) (rnds [] (priceOf p) (decide (p=3)) r (firstL (aliveL t g.lives) (begG p fr)))=_
   rw [ih]
   rfl
theorem tel_out {g:Gr} (h0:gChk g=0) {t:Int} (ht:t<0 \/ g.hor <= t) (p:Nat) (fr:Int) (r:Nat) {v:Nat} (hv:v<g.lives.length):optI ((XX g p fr r t).getD v 0)=none:=by
 rw [XX_out h0 ht p fr r]
 have e:(XX g p fr 0 t).getD v 0=if (aliveL t g.lives).getD v false=true then begG p fr v else 1099511627776:=firstL_getD _ _ v (by rw [aliveL_length];exact hv)
 rw [e,alive_out h0 ht]
 rfl
theorem told_all {g:Gr} (h0:gChk g=0) {p:Nat} {fr:Int} {r:Nat} {T:Nat -> List (Int×Int×Int)} (hT:ToldIs g p fr r T) (hS:∀t:Int,XX g p fr (r+1) t=XX g p fr r t) {v:Nat} (hv:v<g.lives.length):T v=allP g p fr v g.hor.toNat:=by
 have hh:=(gChk_right h0).hor
 obtain ⟨a1,_,a3⟩:=allP_is h0 p fr hv g.hor.toNat
 refine mcan_unique (hT v hv).1 a1 (fun t=> ?_)
 rw [(hT v hv).2 t,a3 t]
 show optI ((XX g p fr r t).getD v 0)=_
 by_cases ht:0 <= t /\ t<g.hor
 · rw [if_pos (by omega)]
   obtain ⟨k,e,k1,k2,k3⟩:=plF_is h0 p fr t.toNat
   have et:((t.toNat:Nat):Int)=t:=by omega
   rw [et] at e k1 k2 k3
   rw [e]
   have:XX g p fr r t=XX g p fr k t:=by
     by_cases hk:k <= r
     · have:=k3 (r-k)
       rw [show k+(r-k)=r by omega] at this
       exact this
     · exact absurd (hS t) (k2 r (by omega))
   rw [this]
 · rw [if_neg (by omega)]
   exact tel_out h0 (by omega) p fr r hv
theorem news_moves {g:Gr} (h0:gChk g=0) {p:Nat} {fr:Int} {r:Nat} {N' :Nat -> List (Int×Int×Int)} (hN:NewsIs g p fr (r+1) N') {v:Nat} (hv:v<g.lives.length) (he:N' v≠[]):∃t:Nat,(t:Int)<g.hor /\ ¬XX g p fr (r+1) t=XX g p fr r t:=by
 cases hm:N' v with
 | nil=>exact absurd hm he
 | cons q m=>
   have hc:=(hN v hv).1
   rw [hm] at hc
   have h1:=(hN v hv).2 q.1
   rw [hm,tel_cons,if_pos (by unfold inP;have:=hc.1;simp;omega)] at h1
   have h2:newsOf (XX g p fr r q.1) (XX g p fr (r+1) q.1) v=some q.2.2:=h1.symm
   have hne:¬XX g p fr (r+1) q.1=XX g p fr r q.1:=fun e=>by
     unfold newsOf at h2
     rw [e,if_neg (by omega)] at h2
     cases h2
   by_cases ht:q.1<0 \/ g.hor <= q.1
   · exact absurd ((XX_out h0 ht p fr (r+1)).trans (XX_out h0 ht p fr r).symm) hne
   · refine ⟨q.1.toNat,by omega,?_⟩
     rw [show ((q.1.toNat:Nat):Int)=q.1 by omega]
     exact hne
theorem take_mrg (a b:Option Int):mrg 1 a b=takeF a b:=by
 cases a<;>cases b<;>first | rfl | (unfold mrg takeF both;simp;omega)
theorem flatB_len {α β:Type} (f:α -> List β) (c:Nat):∀l:List α,(∀a∈l,(f a).length <= c) -> (l.flatMap f).length <= l.length*c
 | [],_=>by simp
 | a::l,h=>by
   have h1:=flatB_len f c l (fun b hb=>h b (List.mem_cons_of_mem _ hb))
   have h2:=h a (List.mem_cons_self ..)
   rw [List.flatMap_cons,List.length_append,List.length_cons,Nat.succ_mul]
   omega
theorem pthsL_len (g:Gr) (p:Nat) (e:Ed) (l:Lg):(pthsL g p e l).length <= 2:=by
 unfold pthsL
 split
 · simp
 · split<;>simp
theorem paths_len {g:Gr} (h0:gChk g=0) (p:Nat):(pathsF g p).length <= 360:=by
 have R:=gChk_right h0
 have h1:=flatB_len (fun e:Ed=>e.2.2.flatMap fun l=>pthsL g p e l) 12 g.edges (fun e he=>by
   have h2:=flatB_len (fun l=>pthsL g p e l) 2 e.2.2 (fun l _=>pthsL_len g p e l)
   have h3:=(R.ends e he).2.2
   omega)
 have h4:=R.eds
 unfold pathsF
 omega
open Low (DeadAt zqs)
open Lo (Zt)
theorem owns_farB {w w' :World} {bp e size n go:Nat} {v:Value} {xs:List Value} (h:w.ownsRow bp e size v n xs) (hf:FarB go w w') (hg:go<bp):w'.ownsRow bp e size v n xs:=by
 refine ⟨h.1,?_⟩
 rcases h.2 with h2 | ⟨g,cap,cur,rfl,hb,hh,h3⟩
 · exact .inl h2
 · exact .inr ⟨g,cap,cur,rfl,hb,(hf.block g (Array.getElem?_eq_some_iff.1 hh).1 (by omega)).trans hh,h3⟩
structure CInv (g:Gr) (p:Nat) (fr:Int) (w0:World) (base go bp:Nat) (pv:Value) (r gon nc:Nat) (σ:World):Prop where
 bel:Below w0.heap.size w0 σ
 lo:w0.heap.size <= base
 told:∃val T,AM σ base go g.lives.length val T /\ ToldIs g p fr r T /\ ∀v,v<g.lives.length -> Sm (12+1000*(r:Int)) (T v)
 news:∃val N,NwAt σ gon g.lives.length nc val N /\ NewsIs g p fr r N /\ ∀v,v<g.lives.length -> Sm (12+1000*(r:Int)) (N v)
 paths:σ.ownsRow bp 130 5 pv (pathsF g p).length (encPs (pathsF g p))
 far:go<bp
 mov:r=0 \/ ∃t:Nat,(t:Int)<g.hor /\ ¬XX g p fr (r- 1+1) t=XX g p fr (r- 1) t
 few:r <= g.lives.length
theorem news_of {g:Gr} (h0:gChk g=0) {p:Nat} {fr:Int} {r W:Nat} {T N H N' :Nat -> List P3} {M:Nat -> Nat -> List P3} {B B' :Int} (hW:1 <= W) (hr:r <= 1000000) (hT:ToldIs g p fr r T) (hN:NewsIs g p fr r N)
   (hM:∀j,j<W -> ∀v,v<g.lives.length -> Sm B (M j v) /\ ∀t,tel (M j v) t=sndF N (j:Int) (W:Int) (pathsF g p) (pathsF g p).length v t) (hH:∀v,v<g.lives.length -> Sm B (H v) /\ ∀t,tel (H v) t=togF M W v t) (hN' :∀v,v<g.lives.length -> Sm B' (N' v) /\ ∀t,tel (N' v) t=lessF (tel (T v) t) (tel (H v) t)):NewsIs g p fr (r+1) N':=
 round_next h0 hr hT (heard_is h0 hW hN (fun j hj v hv t=>(hM j hj v hv).2 t) (fun v hv=>(hH v hv).1.canon) (fun v hv=>(hH v hv).2)) (fun v hv=>(hN' v hv).1.canon) (fun v hv=>(hN' v hv).2)
theorem CInv.next {g:Gr} (h0:gChk g=0) {p:Nat} {fr:Int} {w0 σ σ4 σ5:World} {base go bp go2 base2:Nat} {pv:Value} {r gon nc:Nat} {T N' T' :Nat -> List P3} {val2 val' :Nat -> Value} (I:CInv g p fr w0 base go bp pv r gon nc σ) (hb4:Below σ.heap.size σ σ4)
   (hT:ToldIs g p fr r T) (hN:NewsIs g p fr (r+1) N') (hNs:∀v,v<g.lives.length -> Sm (12+1000*(r:Int)+1000) (N' v)) (hne:¬∀v,v<g.lives.length -> N' v=[]) (A5:AM σ5 base go g.lives.length val' T') (hT' :∀v,v<g.lives.length -> Sm (12+1000*(r:Int)+1000) (T' v) /\ ∀t,tel (T' v) t=mrg 1 (tel (T v) t) (tel (N' v) t)) (A6:AM σ5 base2 go2 g.lives.length val2 N') (hb5:Below base σ4 σ5) (hf:FarB go σ4 σ5):
   CInv g p fr w0 base go bp pv (r+1) go2 g.lives.length σ5:=by
 obtain ⟨v,hv,hv2⟩:∃v,v<g.lives.length /\ N' v≠[]:=Classical.byContradiction fun h=>hne fun v hv=>Classical.byContradiction fun h2=>h ⟨v,hv,h2⟩
 have e:(12+1000*(r:Int)+1000)=12+1000*((r+1:Nat):Int):=by omega
 rw [e] at hNs hT'
 refine ⟨(I.bel.trans (hb4.mono I.bel.size)).trans (hb5.mono I.lo),I.lo,⟨val',T',A5,told_next h0 hT hN (fun v hv=>(hT' v hv).1.canon) (fun v hv t=>by rw [(hT' v hv).2 t,take_mrg]),fun v hv=>(hT' v hv).1⟩,⟨val2,N',A6.nw,hN,hNs⟩,owns_farB (ownsRow_below I.paths hb4) hf I.far,I.far,.inr ?_,?_⟩
 · rw [show r+1- 1=r from rfl]
   exact news_moves h0 hN hv hv2
 · have:=news_few h0 hN hv hv2
   omega
theorem CInv.first {g:Gr} (h0:gChk g=0) {p:Nat} {fr:Int} {w0 σ:World} {base go bp:Nat} {pv:Value} {gon nc bn:Nat} {val:Nat -> Value} {T:Nat -> List P3} (bel:Below w0.heap.size w0 σ) (lo:w0.heap.size <= base) (A:AM σ base go g.lives.length val T) (hT:∀v,v<g.lives.length -> T v=frstM g p fr v) (hN:σ.ownsRow bn 41 1 (.slice (some ⟨gon,0,none⟩) g.lives.length nc) g.lives.length ((List.range g.lives.length).map val)) (hP:σ.ownsRow bp 130 5 pv (pathsF g p).length (encPs (pathsF g p))) (far:go<bp):
   CInv g p fr w0 base go bp pv 0 gon nc σ:=by
 obtain ⟨f1,f2⟩:=frst_told h0 p fr
 have t1:ToldIs g p fr 0 T:=fun v hv=>by rw [hT v hv];exact f1 v hv
 have t2:∀v,v<g.lives.length -> Sm (12+1000*((0:Nat):Int)) (T v):=fun v hv=>by rw [hT v hv];exact (f2 v hv).mono (by omega)
 exact ⟨bel,lo,⟨val,T,A,t1,t2⟩,⟨val,T,⟨⟨bn,hN⟩,fun v hv=>⟨base,A.inn v hv⟩⟩,t1,t2⟩,hP,far,.inl rfl,Nat.zero_le _⟩
def PathsOk (g:Gr) (la ea:Option Addr) (lc ec p:Nat):Prop:=
 ∀w',GAt w' la ea g -> Calls Seq.prog 50 #[.agg #[.int .i64 g.hor,.slice la g.lives.length lc,.slice ea g.edges.length ec],.int .i64 p] w' fun e w'' =>∃v,e= .returned v /\ w''.ownsRow w'.heap.size 130 5 v (pathsF g p).length (encPs (pathsF g p)) /\ Below w'.heap.size w' w''
set_option maxRecDepth 100000 in
set_option maxHeartbeats 2000000 in
theorem bsCombined_ok (g:Gr) (la ea:Option Addr) (lc ec p W:Nat) (fr:Int) (w:World) (hG:GAt w la ea g) (hE:askE g p fr=0) (h0:gChk g=0) (hW:1 <= W /\ W <= 1) (hPath:PathsOk g la ea lc ec p):
   Calls Seq.prog 21 #[.agg #[.int .i64 g.hor,.slice la g.lives.length lc,.slice ea g.edges.length ec],.int .i64 p,.int .i64 fr,.int .i64 W] w fun e w' =>(∃go val T r,e= .returned (.tuple #[.slice (some ⟨go,0,none⟩) g.lives.length g.lives.length,.int .i64 r,.int .i64 0]) /\ AM w' w.heap.size go g.lives.length val T /\ (∀v,v<g.lives.length -> T v=allP g p fr v g.hor.toNat) /\ r=allR g p fr g.hor.toNat /\ Below w.heap.size w w') \/ (¬Zt zqs w.tape /\ ∃ch,e= .panicked ch /\ DeadAt w'):=by
 obtain ⟨w1,hw1⟩:∃x,x=w.alloc (.cells #[.int .i64 g.hor,.slice la g.lives.length lc,.slice ea g.edges.length ec] 25):=⟨_,rfl⟩
 have B0:GBox w w1 w.heap.size g la ea lc ec:=by rw [hw1];exact gbox_start w g la ea lc ec 25
 have hn12:=(gChk_right h0).lvs
 have h1:=bsCheck_any g la ea lc ec p fr _ (hG.below B0.bel)
 rw [hE] at h1
 have HG:=hideg hG
 have HB1:=hideg B0
 have H0:=hideg h0
 have HPt:=hideg hPath
 have HW:=hideg hW
 have g0:=B0.c0
 have g1:=B0.c1
 have g2:=B0.c2
 have hw1s:=hw1.symm
 have d1:decide ((W:Int)<1)=false:=by simp;omega
 have d2:decide ((64:Int)<W)=false:=by simp;omega
 clear hG B0 hw1 hE h0 hPath hW
 go_enter Seq.func21,Tryz.ntmps21
 go_wp2_with fail
 refine h1.mono ?_
 rintro e w2 ⟨rfl,hb2⟩
 have B2:=HB1.out.below hb2
 clear h1 hw1s g0 g1 g2
 have g0:=B2.c0
 have g1:=B2.c1
 have g2:=B2.c2
 go_wp2_with fail
 refine (bsFirst_any g la ea lc ec p fr _ (HG.out.below B2.bel) H0.out).mono ?_
 rintro e w3 ⟨go,val,T,rfl,A3,hT,hb3⟩
 have B3:=B2.below hb3
 clear g0 g1 g2
 have g0:=B3.c0
 have g1:=B3.c1
 have g2:=B3.c2
 go_wp2_with fail
 refine (HPt.out _ (HG.out.below B3.bel)).mono ?_
 rintro e w4 ⟨pv,rfl,hP4,hb4⟩
 have A4:=A3.below hb4
 go_wp2_with fail
 refine (cloneV_any _ go _ _ val T w4 A4 hn12).mono ?_
 rintro e w5 ⟨gon,nc,rfl,hN5,hb5⟩
 have I0:CInv g p fr w w2.heap.size go w3.heap.size pv 0 gon nc w5:=CInv.first H0.out (ptg (B3.below hb4).bel hb5) (B2.bel.size) (A4.below hb5) hT hN5 (ownsRow_below hP4 hb5) ((World.ownsRow.lt A3.own go rfl).2)
 have HI0:=hideg I0
 have HWs:=hideg B2.bel.size
 clear g0 g1 g2 I0 A4 hN5 hP4 hb5 hb4 hb3 hb2 A3 hT B2 B3 HB1
 go_wp2_with fail
 go_loopw [14,15,16] (fun nv rd _ wr=>∃r gon nc:Nat,nv= .slice (some ⟨gon,0,none⟩) g.lives.length nc /\ rd= .int .i64 (r:Int) /\ CInv g p fr w w2.heap.size go w3.heap.size pv r gon nc wr) (fun _ rd _ _=>g.lives.length-(intOf rd).toNat)
 case atStart=>exact ⟨0,gon,nc,rfl,rfl,HI0.out⟩
 case round=>
   obtain ⟨r,gon1,nc1,rfl,rfl,I⟩:=hrel
   have hr12:r <= 12:=Nat.le_trans I.few hn12
   obtain ⟨valT,T1,AT,hT1,sT⟩:=I.told
   obtain ⟨valN,N1,AN,hN1,sN⟩:=I.news
   have HI:=hideg I
   have HT1:=hideg hT1
   have HN1:=hideg hN1
   have hgo:=(World.ownsRow.lt AT.own go rfl).2
   clear HI0 hT1 hN1
   go_wp2_with fail
   refine (bsSendAll_any wr (B:=12+1000*(r:Int)) (by omega) hn12 HW.out (Nat.le_trans (paths_len H0.out p) (by omega)) AN I.paths (fun π hπ=>paths_good H0.out hπ) sN).mono ?_
   clear I
   rintro e w6 (⟨ao,M,rfl,hBx,hM,hb6⟩ | ⟨hz,ch,rfl,hd⟩)
   · go_wp2_with fail
     refine (bsTogether_any ao W W g.lives.length M (12+1000*(r:Int)+1000) (by omega) hn12 HW.out.2 w6 hBx (fun j hj v hv=>(hM j hj v hv).1)).mono ?_
     rintro e w7 ⟨val7,H7,rfl,A7,hH7,hb7⟩
     go_wp2_with fail
     refine (bsLess_any (some ⟨go,0,none⟩) (some ⟨w6.heap.size,0,none⟩) _ _ _ T1 H7 (12+1000*(r:Int)+1000) (by omega) hn12 w7 (AT.read.below (ptg hb6 hb7)) A7.read (fun v hv=>(sT v hv).mono (by omega)) (fun v hv=>(hH7 v hv).1)).mono ?_
     rintro e w8 ⟨val8,N8,rfl,A8,hN8,hb8⟩
     have hNw:=news_of H0.out HW.out.1 (by omega) HT1.out HN1.out hM hH7 hN8
     go_wp2_with fail
     refine (bsEmpty_any _ _ _ N8 w8 A8.read hn12).mono ?_
     rintro e w9 ⟨rfl,hb9⟩
     have hb69:Below wr.heap.size wr w9:=ptg (ptg (ptg hb6 hb7) hb8) hb9
     have hgo7:go<w7.heap.size:=Nat.lt_of_lt_of_le hgo (ptg hb6 hb7).size
     by_cases hne:∀v,v<g.lives.length -> N8 v=[]
     · have hnb:noneB g.lives.length N8=true:=by unfold noneB;exact decide_eq_true hne
       rw [hnb]
       have hst:=news_empty H0.out hNw hne
       have HF:Hid (AM w9 w.heap.size go g.lives.length valT T1 /\ (∀v,v<g.lives.length -> T1 v=allP g p fr v g.hor.toNat) /\ (r:Int)=allR g p fr g.hor.toNat /\ Below w.heap.size w w9):=⟨(AT.below hb69).base HWs.out,fun v hv=>told_all H0.out HT1.out hst hv,(allR_is H0.out hst HI.out.mov).symm,HI.out.bel.trans (hb69.mono HI.out.bel.size)⟩
       clear hst hne hNw hM hH7 hN8 A7 A8 hBx hb6 hb7 hb8 hb9 hb69 sT sN AT AN
       go_wp2
       refine bodyPost_ret (v:= .tuple #[.slice (some ⟨go,0,none⟩) g.lives.length g.lives.length,.int .i64 (r:Int),.int .i64 0]) (by simp [results,Tryz.results21,go_sem]) rfl (.inl ⟨go,valT,T1,r,rfl,HF.out.1,HF.out.2.1,HF.out.2.2.1,HF.out.2.2.2⟩)
     · have hnb:noneB g.lives.length N8=false:=by unfold noneB;exact decide_eq_false hne
       rw [hnb]
       go_wp2_with fail
       refine (bsTake_any w2.heap.size go g.lives.length _ w7.heap.size w7.heap.size _ valT val8 T1 N8 (12+1000*(r:Int)+1000) (by omega) hn12 w9 (AT.below hb69) (A8.below hb9) hgo7 (fun v hv=>(sT v hv).mono (by omega)) (fun v hv=>(hN8 v hv).1)).mono ?_
       rintro e w10 ⟨rfl,val',T',A10,hT',A11,hb10,hf10⟩
       have I1:=CInv.next H0.out HI.out hb69 HT1.out hNw (fun v hv=>(hN8 v hv).1) hne A10 hT' A11 hb10 hf10
       have hfw:=I1.few
       have HI1:=hideg I1
       clear I1 hNw hM hH7 hN8 A7 A8 hBx hb6 hb7 hb8 hb9 hb69 sT sN AT AN A10 A11 hT' hb10 hf10
       have hw1' :IntKind.i64.wrap ((r:Int)+1)=(r:Int)+1:=by rw [IntKind.wrap_i64];omega
       go_wp2_with fail
       exact ⟨⟨r+1,_,_,rfl,by go_num,HI1.out⟩,by simp [intOf];omega⟩
   · exact ⟨rfl,.inr ⟨fun h=>hz (by rw [HI.out.bel.tape];exact h),ch,rfl,hd⟩⟩
set_option maxRecDepth 100000 in
set_option maxHeartbeats 1000000 in
theorem bsRun_ok (g:Gr) (la ea:Option Addr) (lc ec p:Nat) (fr:Int) (w:World) (hG:GAt w la ea g) (hE:askE g p fr=0) (h0:gChk g=0) (hPath:PathsOk g la ea lc ec p):
   Calls Seq.prog 6 #[.agg #[.int .i64 g.hor,.slice la g.lives.length lc,.slice ea g.edges.length ec],.int .i64 p,.int .i64 fr] w fun e w' =>(∃go val T r,e= .returned (.tuple #[.slice (some ⟨go,0,none⟩) g.lives.length g.lives.length,.int .i64 r,.int .i64 0]) /\ AM w' w.heap.size go g.lives.length val T /\ (∀v,v<g.lives.length -> T v=allP g p fr v g.hor.toNat) /\ r=allR g p fr g.hor.toNat /\ Below w.heap.size w w') \/ (¬Zt zqs w.tape /\ ∃ch,e= .panicked ch /\ DeadAt w'):=by
 obtain ⟨w1,hw1⟩:∃x,x=w.alloc (.cells #[.int .i64 g.hor,.slice la g.lives.length lc,.slice ea g.edges.length ec] 25):=⟨_,rfl⟩
 have B0:GBox w w1 w.heap.size g la ea lc ec:=by rw [hw1];exact gbox_start w g la ea lc ec 25
 have h1:=bsCombined_ok g la ea lc ec p 1 fr _ (hG.below B0.bel) hE h0 (by omega) hPath
 have HB1:=hideg B0
 have g0:=B0.c0
 have g1:=B0.c1
 have g2:=B0.c2
 have hw1s:=hw1.symm
 clear hG B0 hw1 hE h0 hPath
 go_enter Seq.func6,Tryz.ntmps6
 go_wp2_with fail
 refine h1.mono ?_
 rintro e w2 (⟨go,val,T,r,rfl,A2,hT,hr,hb2⟩ | ⟨hz,ch,rfl,hd⟩)
 · have HF:=hideg (HB1.out.below hb2).bel
   have HA:=hideg (A2.base HB1.out.bel.size)
   have HT:=hideg hT
   have HR:=hideg hr
   clear h1 hw1s g0 g1 g2 hb2 HB1 A2 hT hr
   go_wp2
   exact bodyPost_ret (v:= .tuple #[.slice (some ⟨go,0,none⟩) g.lives.length g.lives.length,.int .i64 r,.int .i64 0]) (by simp [results,Tryz.results6,go_sem]) rfl (.inl ⟨go,val,T,r,rfl,HA.out,HT.out,HR.out,HF.out⟩)
 · exact ⟨rfl,.inr ⟨fun h=>hz (by rw [HB1.out.bel.tape];exact h),ch,rfl,hd⟩⟩
theorem cell_newP {W:World} {cs:Array Value} {T:TypeId} {b j:Nat} {x:Value} (hb:b=W.heap.size) (hx:cs[j]? =some x):(W.alloc (.cells cs T)).cell? ⟨b,j,none⟩=some x:=by subst hb;simp [hx]
theorem frozen_newP {W:World} {cs:Array Value} {T:TypeId} {b j:Nat} (hb:b=W.heap.size):(W.alloc (.cells cs T)).frozen? ⟨b,j,none⟩=false:=by subst hb;simp
theorem set5P {w W:World} (h:Below w.heap.size w W) {b:Nat} (hb:w.heap.size <= b) (x0 x1 x2 x3 x4:Value) (o:Obj):Below w.heap.size w ((((((W.setCell ⟨b,0,none⟩ x0).setCell ⟨b,1,none⟩ x1).setCell ⟨b,2,none⟩ x2).setCell ⟨b,3,none⟩ x3).setCell ⟨b,4,none⟩ x4).alloc o):=by
 have h5:=((((h.setCell (p:=⟨b,0,none⟩) hb x0).setCell (p:=⟨b,1,none⟩) hb x1).setCell (p:=⟨b,2,none⟩) hb x2).setCell (p:=⟨b,3,none⟩) hb x3).setCell (p:=⟨b,4,none⟩) hb x4
 exact h5.alloc h5.size o
structure PBx (w W:World) (A B:Nat) (l1 l2 l4:Int):Prop where
 e0:W.cell? ⟨w.heap.size+1,0,none⟩=some (.int .i64 (A:Int))
 e1:W.cell? ⟨w.heap.size+1,1,none⟩=some (.int .i64 (B:Int))
 l0:W.cell? ⟨w.heap.size+1+1,0,none⟩=some (.int .i64 l1)
 l1:W.cell? ⟨w.heap.size+1+1,1,none⟩=some (.int .i64 l2)
 l3:W.cell? ⟨w.heap.size+1+1,3,none⟩=some (.int .i64 l4)
 r:∀j,j<5 -> W.cell? ⟨w.heap.size+1+1+1,j,none⟩=some (.int .i64 0)
 fz:∀j,W.frozen? ⟨w.heap.size+1+1+1,j,none⟩=false
 bel:Below w.heap.size w W
 lt:w.heap.size+1+1+1<W.heap.size
theorem PBx.below {w W W' :World} {A B:Nat} {l1 l2 l4:Int} (h:PBx w W A B l1 l2 l4) (hb:Below W.heap.size W W'):PBx w W' A B l1 l2 l4:=by
 have hl:=h.lt
 have hs:=hb.size
 have q:∀b j x,b<W.heap.size -> W.cell? ⟨b,j,none⟩=some x -> W'.cell? ⟨b,j,none⟩=some x:=fun b j x hlt hx=>(hb.cell (p:=⟨b,j,none⟩) hlt).trans hx
 exact ⟨q _ _ _ (by omega) h.e0,q _ _ _ (by omega) h.e1,q _ _ _ (by omega) h.l0,q _ _ _ (by omega) h.l1,q _ _ _ (by omega) h.l3,fun j hj=>q _ _ _ (by omega) (h.r j hj),fun j=>(hb.frozen (p:=⟨w.heap.size+1+1+1,j,none⟩) (by simp only;omega)).trans (h.fz j),ptg h.bel hb,by omega⟩
theorem got5P {W:World} {b:Nat} {y0 y4:Value} (x0 x1 x2 x3 x4:Value) (o:Obj) (h0:W.cell? ⟨b,0,none⟩=some y0) (h4:W.cell? ⟨b,4,none⟩=some y4):
   ((((((W.setCell ⟨b,0,none⟩ x0).setCell ⟨b,1,none⟩ x1).setCell ⟨b,2,none⟩ x2).setCell ⟨b,3,none⟩ x3).setCell ⟨b,4,none⟩ x4).alloc o).cell? ⟨b,0,none⟩=some x0 /\
   ((((((W.setCell ⟨b,0,none⟩ x0).setCell ⟨b,1,none⟩ x1).setCell ⟨b,2,none⟩ x2).setCell ⟨b,3,none⟩ x3).setCell ⟨b,4,none⟩ x4).alloc o).cell? ⟨b,1,none⟩=some x1 /\
   ((((((W.setCell ⟨b,0,none⟩ x0).setCell ⟨b,1,none⟩ x1).setCell ⟨b,2,none⟩ x2).setCell ⟨b,3,none⟩ x3).setCell ⟨b,4,none⟩ x4).alloc o).cell? ⟨b,2,none⟩=some x2 /\
   ((((((W.setCell ⟨b,0,none⟩ x0).setCell ⟨b,1,none⟩ x1).setCell ⟨b,2,none⟩ x2).setCell ⟨b,3,none⟩ x3).setCell ⟨b,4,none⟩ x4).alloc o).cell? ⟨b,3,none⟩=some x3 /\
   ((((((W.setCell ⟨b,0,none⟩ x0).setCell ⟨b,1,none⟩ x1).setCell ⟨b,2,none⟩ x2).setCell ⟨b,3,none⟩ x3).setCell ⟨b,4,none⟩ x4).alloc o).cell? ⟨b,4,none⟩=some x4:=by
 have hc:∃c t f,W.heap[b]? =some (.cells c t f):=by
   unfold World.cell? at h0
   split at h0
   · rename_i c t f hh;exact ⟨c,t,f,hh⟩
   · cases h0
 obtain ⟨c,t,f,hh⟩:=hc
 have s4:4<c.size:=by
   simp only [World.cell?,hh] at h4
   simp at h4
   exact (Array.getElem?_eq_some_iff.1 h4).1
 have hz:(((((W.setCell ⟨b,0,none⟩ x0).setCell ⟨b,1,none⟩ x1).setCell ⟨b,2,none⟩ x2).setCell ⟨b,3,none⟩ x3).setCell ⟨b,4,none⟩ x4).heap[b]? =some (.cells (((((c.setIfInBounds 0 x0).setIfInBounds 1 x1).setIfInBounds 2 x2).setIfInBounds 3 x3).setIfInBounds 4 x4) t f):=by
   simp [World.setCell,Array.getElem?_modify,hh]
 have hlt:=(Array.getElem?_eq_some_iff.1 hz).1
 generalize ((((W.setCell ⟨b,0,none⟩ x0).setCell ⟨b,1,none⟩ x1).setCell ⟨b,2,none⟩ x2).setCell ⟨b,3,none⟩ x3).setCell ⟨b,4,none⟩ x4=Z at*
 have s0:0<c.size:=by omega
 have s1:1<c.size:=by omega
 have s2:2<c.size:=by omega
 have s3:3<c.size:=by omega
 refine ⟨?_,?_,?_,?_,?_⟩
 · rw [(gal Z o).cell (by exact hlt)];simp only [World.cell?,hz];simp [s0]
 · rw [(gal Z o).cell (by exact hlt)];simp only [World.cell?,hz];simp [s1]
 · rw [(gal Z o).cell (by exact hlt)];simp only [World.cell?,hz];simp [s2]
 · rw [(gal Z o).cell (by exact hlt)];simp only [World.cell?,hz];simp [s3]
 · rw [(gal Z o).cell (by exact hlt)];simp only [World.cell?,hz];simp [s4]
set_option maxRecDepth 100000 in
set_option maxHeartbeats 4000000 in
theorem pathOf_any (g:Gr) (la ea lo:Option Addr) (lc ec ln lcap p:Nat) (e:Ed) (l:Lg) (w:World) (hG:GAt w la ea g) (hA:0 <= e.1 /\ e.1<g.lives.length) (hB:0 <= e.2.1 /\ e.2.1<g.lives.length) (hp3:p=1 \/ p=2 \/ p=3):
   Calls Seq.prog 73 #[.agg #[.int .i64 g.hor,.slice la g.lives.length lc,.slice ea g.edges.length ec],.agg #[.int .i64 e.1,.int .i64 e.2.1,.slice lo ln lcap],.agg #[.int .i64 l.1,.int .i64 l.2.1,.int .i64 l.2.2.1,.int .i64 l.2.2.2],.int .i64 p] w fun r w' =>r= .returned (ptV (pthOf g p e l)) /\ Below w.heap.size w w':=by
 obtain ⟨ea1,eb1,elegs⟩:=e
 obtain ⟨l1,l2,l3,l4⟩:=l
 simp only at hA hB ⊢
 obtain ⟨A,rfl⟩:∃A:Nat,ea1=(A:Int):=⟨ea1.toNat,by omega⟩
 obtain ⟨B,rfl⟩:∃B:Nat,eb1=(B:Int):=⟨eb1.toNat,by omega⟩
 have hAn:A<g.lives.length:=by omega
 have hBn:B<g.lives.length:=by omega
 obtain ⟨lb,lof,rfl,hlb,hlc⟩:∃b off,la=some ⟨b,off,none⟩ /\ b<w.heap.size /\ ∀k (hk:k<g.lives.length),(w.cell? ⟨b,off+k*2,none⟩=some (.int .i64 g.lives[k].1) /\ w.cell? ⟨b,off+k*2+1,none⟩=some (.int .i64 g.lives[k].2)):=by
   rcases hG.lv with h0 | ⟨b,off,rfl,hbr,hc⟩
   · rw [h0] at hAn;simp at hAn
   exact ⟨b,off,rfl,hbr,fun k hk=>IvAt.get hk hc⟩
 obtain ⟨a0,a1⟩:=hlc A hAn
 obtain ⟨b0,b1⟩:=hlc B hBn
 have eA:lifeOf g (A:Int)=(g.lives[A].1,g.lives[A].2):=by unfold lifeOf;rw [Int.toNat_natCast,List.getD_eq_getElem?_getD,List.getElem?_eq_getElem hAn];rfl
 have eB:lifeOf g (B:Int)=(g.lives[B].1,g.lives[B].2):=by unfold lifeOf;rw [Int.toNat_natCast,List.getD_eq_getElem?_getD,List.getElem?_eq_getElem hBn];rfl
 have HP:Hid (pthOf g p ((A:Int),(B:Int),elegs) (l1,l2,l3,l4)=((A:Int),(B:Int),max l1 (max g.lives[A].1 g.lives[B].1),min l2 (min g.lives[A].2 g.lives[B].2),priceOf p ((A:Int),(B:Int),l4))):=by show _=_;unfold pthOf;simp only;rw [eA,eB]
 obtain ⟨mx,hmx⟩:∃m,m=(if (if l1<g.lives[A].1 then g.lives[A].1 else l1)<g.lives[B].1 then g.lives[B].1 else (if l1<g.lives[A].1 then g.lives[A].1 else l1)):=⟨_,rfl⟩
 obtain ⟨mn,hmn⟩:∃m,m=(if g.lives[B].2<(if g.lives[A].2<l2 then g.lives[A].2 else l2) then g.lives[B].2 else (if g.lives[A].2<l2 then g.lives[A].2 else l2)):=⟨_,rfl⟩
 have hmx2:max l1 (max g.lives[A].1 g.lives[B].1)=mx:=by rw [hmx];split<;>split<;>omega
 have hmn2:min l2 (min g.lives[A].2 g.lives[B].2)=mn:=by rw [hmn];split<;>split<;>omega
 rw [hmx2,hmn2] at HP
 have hmxs:=hmx.symm
 have hmns:=hmn.symm
 clear hmx hmn hmx2 hmn2
 generalize g.lives[A].1=x1 at*
 generalize g.lives[A].2=x2 at*
 generalize g.lives[B].1=z1 at*
 generalize g.lives[B].2=z2 at*
 clear eA eB hlc hG
 obtain ⟨w1,hw1⟩:∃x,x=(((w.alloc (.cells #[.int .i64 g.hor,.slice (some ⟨lb,lof,none⟩) g.lives.length lc,.slice ea g.edges.length ec] 25)).alloc (.cells #[.int .i64 (A:Int),.int .i64 (B:Int),.slice lo ln lcap] 47)).alloc (.cells #[.int .i64 l1,.int .i64 l2,.int .i64 l3,.int .i64 l4] 69)).alloc (.cells #[.int .i64 0,.int .i64 0,.int .i64 0,.int .i64 0,.int .i64 0] 130):=⟨_,rfl⟩
 have hb1:Below w.heap.size w w1:=by rw [hw1];exact ptg (ptg (ptg (gal _ _) (gal _ _)) (gal _ _)) (gal _ _)
 have hw1s:=hw1.symm
 have hs1:w1.heap.size=w.heap.size+4:=by rw [hw1];simp
 have k1:w1.cell? ⟨w.heap.size,1,none⟩=some (.slice (some ⟨lb,lof,none⟩) g.lives.length lc):=by
   rw [hw1,(gal _ _).cell (by simp<;>omega),(gal _ _).cell (by simp<;>omega),(gal _ _).cell (by simp<;>omega)];exact cell_newP rfl rfl
 have k2:w1.cell? ⟨w.heap.size+1,0,none⟩=some (.int .i64 (A:Int)):=by
   rw [hw1,(gal _ _).cell (by simp<;>omega),(gal _ _).cell (by simp<;>omega)];exact cell_newP (by simp) rfl
 have k3:w1.cell? ⟨w.heap.size+1,1,none⟩=some (.int .i64 (B:Int)):=by
   rw [hw1,(gal _ _).cell (by simp<;>omega),(gal _ _).cell (by simp<;>omega)];exact cell_newP (by simp) rfl
 have a0':=(hb1.cell (p:=⟨lb,lof+A*2,none⟩) hlb).trans a0
 have a1':=(hb1.cell (p:=⟨lb,lof+A*2+1,none⟩) hlb).trans a1
 have b0':=(hb1.cell (p:=⟨lb,lof+B*2,none⟩) hlb).trans b0
 have b1':=(hb1.cell (p:=⟨lb,lof+B*2+1,none⟩) hlb).trans b1
 have hAi:(A:Int)<(g.lives.length:Int):=by omega
 have hBi:(B:Int)<(g.lives.length:Int):=by omega
 have PB0:PBx w w1 A B l1 l2 l4:=by
   refine ⟨?_,?_,?_,?_,?_,fun j hj=> ?_,fun j=> ?_,hb1,by omega⟩
   · exact k2
   · exact k3
   · rw [hw1,(gal _ _).cell (by simp<;>omega)];exact cell_newP (by simp) rfl
   · rw [hw1,(gal _ _).cell (by simp<;>omega)];exact cell_newP (by simp) rfl
   · rw [hw1,(gal _ _).cell (by simp<;>omega)];exact cell_newP (by simp) rfl
   · rw [hw1]
     refine cell_newP (by simp) ?_
     match j,hj with
     | 0,_=>rfl
     | 1,_=>rfl
     | 2,_=>rfl
     | 3,_=>rfl
     | 4,_=>rfl
   · rw [hw1];exact frozen_newP (by simp)
 clear a0 a1 b0 b1 hw1
 have u0:=fun o=>((gal w1 o).cell (p:=⟨w.heap.size,1,none⟩) (by simp only;omega)).trans k1
 have v0:=fun o o' =>((ptg (gal w1 o) (gal _ o')).cell (p:=⟨w.heap.size,1,none⟩) (by simp only;omega)).trans k1
 have u1:=fun o=>((gal w1 o).cell (p:=⟨w.heap.size+1,0,none⟩) (by simp only;omega)).trans k2
 have v1:=fun o o' =>((ptg (gal w1 o) (gal _ o')).cell (p:=⟨w.heap.size+1,0,none⟩) (by simp only;omega)).trans k2
 have u2:=fun o=>((gal w1 o).cell (p:=⟨w.heap.size+1,1,none⟩) (by simp only;omega)).trans k3
 have v2:=fun o o' =>((ptg (gal w1 o) (gal _ o')).cell (p:=⟨w.heap.size+1,1,none⟩) (by simp only;omega)).trans k3
 have u3:=fun o=>((gal w1 o).cell (p:=⟨lb,lof+A*2,none⟩) (by simp only;omega)).trans a0'
 have v3:=fun o o' =>((ptg (gal w1 o) (gal _ o')).cell (p:=⟨lb,lof+A*2,none⟩) (by simp only;omega)).trans a0'
 have u4:=fun o=>((gal w1 o).cell (p:=⟨lb,lof+A*2+1,none⟩) (by simp only;omega)).trans a1'
 have v4:=fun o o' =>((ptg (gal w1 o) (gal _ o')).cell (p:=⟨lb,lof+A*2+1,none⟩) (by simp only;omega)).trans a1'
 have u5:=fun o=>((gal w1 o).cell (p:=⟨lb,lof+B*2,none⟩) (by simp only;omega)).trans b0'
 have v5:=fun o o' =>((ptg (gal w1 o) (gal _ o')).cell (p:=⟨lb,lof+B*2,none⟩) (by simp only;omega)).trans b0'
 have u6:=fun o=>((gal w1 o).cell (p:=⟨lb,lof+B*2+1,none⟩) (by simp only;omega)).trans b1'
 have v6:=fun o o' =>((ptg (gal w1 o) (gal _ o')).cell (p:=⟨lb,lof+B*2+1,none⟩) (by simp only;omega)).trans b1'
 go_enter Seq.func73,Tryz.ntmps73
 go_wp2_with fail
 rename_i Q' K hK
 have TL:∀(pa pb:Nat) (W2:World),PBx w W2 A B l1 l2 l4 -> W2.cell? ⟨pa,0,none⟩=some (.int .i64 x1) -> W2.cell? ⟨pa,1,none⟩=some (.int .i64 x2) -> W2.cell? ⟨pb,0,none⟩=some (.int .i64 z1) -> W2.cell? ⟨pb,1,none⟩=some (.int .i64 z2) -> W2.heap.size=w.heap.size+6 -> K {tmps:=#[.agg #[.int .i64 g.hor,.slice (some ⟨lb,lof,none⟩) g.lives.length lc,.slice ea g.edges.length ec],.agg #[.int .i64 (A:Int),.int .i64 (B:Int),.slice lo ln lcap],.agg #[.int .i64 l1,.int .i64 l2,.int .i64 l3,.int .i64 l4],.int .i64 (p:Int),.pointer (some ⟨w.heap.size,0,none⟩),.pointer (some ⟨w.heap.size+1,0,none⟩),.pointer (some ⟨w.heap.size+1+1,0,none⟩),undef,.pointer (some ⟨w.heap.size+1+1+1,0,none⟩),.pointer (some ⟨pa,0,none⟩),.pointer (some ⟨pb,0,none⟩),undef,.pointer (some ⟨w.heap.size,1,none⟩),.slice (some ⟨lb,lof,none⟩) g.lives.length lc,.pointer (some ⟨w.heap.size+1,0,none⟩),.int .i64 (A:Int),.pointer (some ⟨lb,lof+A*2,none⟩),.agg #[.int .i64 x1,.int .i64 x2],.pointer (some ⟨w.heap.size,1,none⟩),.slice (some ⟨lb,lof,none⟩) g.lives.length lc,.pointer (some ⟨w.heap.size+1,1,none⟩),.int .i64 (B:Int),.pointer (some ⟨lb,lof+B*2,none⟩),.agg #[.int .i64 z1,.int .i64 z2],undef,undef,undef,undef,undef,undef,undef,undef,undef,undef,undef,undef,undef,undef,undef,undef,undef,undef,undef,undef,undef,undef,undef,undef,undef,undef,undef,undef,undef],defers:=[] } W2:=by
   intro pa pb W2 F q0 q1 q2 q3 hs2
   refine hK _ _ ?_
   have e0:=F.e0
   have e1:=F.e1
   have l0:=F.l0
   have l1':=F.l1
   have l3':=F.l3
   have r0:=F.r 0 (by omega)
   have r1:=F.r 1 (by omega)
   have r2:=F.r 2 (by omega)
   have r3:=F.r 3 (by omega)
   have r4:=F.r 4 (by omega)
   have fz:=F.fz
   have HBW:=hideg F.bel
   clear hK F PB0 u0 u1 u2 u3 u4 u5 u6 v0 v1 v2 v3 v4 v5 v6 k1 k2 k3 a0' a1' b0' b1' hw1s hs1 hb1
   rcases hp3 with rfl | rfl | rfl
   · have HV:Hid (pthOf g 1 ((A:Int),(B:Int),elegs) (l1,l2,l3,l4)=((A:Int),(B:Int),mx,mn,1)):=by show _=_;rw [HP.out];rfl
     go_wp2
     obtain ⟨t0,t1,t2,t3,t4⟩:=got5P (.int .i64 (A:Int)) (.int .i64 (B:Int)) (.int .i64 mx) (.int .i64 mn) (.int .i64 1) (.cells #[.int .i64 (A:Int),.int .i64 (B:Int),.int .i64 mx,.int .i64 mn,.int .i64 1] 130) r0 r4
     refine bodyPost_ret (v:=ptV ((A:Int),(B:Int),mx,mn,1)) (by simp [results,Tryz.results73,go_sem,ptV,t0,t1,t2,t3,t4]) rfl ⟨by rw [HV.out],?_⟩
     exact set5P HBW.out (by omega) _ _ _ _ _ _
   · have HV:Hid (pthOf g 2 ((A:Int),(B:Int),elegs) (l1,l2,l3,l4)=((A:Int),(B:Int),mx,mn,l4)):=by show _=_;rw [HP.out];rfl
     go_wp2
     obtain ⟨t0,t1,t2,t3,t4⟩:=got5P (.int .i64 (A:Int)) (.int .i64 (B:Int)) (.int .i64 mx) (.int .i64 mn) (.int .i64 l4) (.cells #[.int .i64 (A:Int),.int .i64 (B:Int),.int .i64 mx,.int .i64 mn,.int .i64 l4] 130) r0 r4
     refine bodyPost_ret (v:=ptV ((A:Int),(B:Int),mx,mn,l4)) (by simp [results,Tryz.results73,go_sem,ptV,t0,t1,t2,t3,t4]) rfl ⟨by rw [HV.out],?_⟩
     exact set5P HBW.out (by omega) _ _ _ _ _ _
   · have HV:Hid (pthOf g 3 ((A:Int),(B:Int),elegs) (l1,l2,l3,l4)=((A:Int),(B:Int),mx,mn,0)):=by show _=_;rw [HP.out];rfl
     go_wp2
     obtain ⟨t0,t1,t2,t3,t4⟩:=got5P (.int .i64 (A:Int)) (.int .i64 (B:Int)) (.int .i64 mx) (.int .i64 mn) (.int .i64 0) (.cells #[.int .i64 (A:Int),.int .i64 (B:Int),.int .i64 mx,.int .i64 mn,.int .i64 0] 130) r0 r4
     refine bodyPost_ret (v:=ptV ((A:Int),(B:Int),mx,mn,0)) (by simp [results,Tryz.results73,go_sem,ptV,t0,t1,t2,t3,t4]) rfl ⟨by rw [HV.out],?_⟩
     exact set5P HBW.out (by omega) _ _ _ _ _ _
 go_region
 · obtain ⟨W2,hW2⟩:∃x,x=((w1.alloc (.cells #[.int .i64 x1,.int .i64 x2] 95)).alloc (.cells #[.int .i64 z1,.int .i64 z2] 95)).drew:=⟨_,rfl⟩
   have hB2:Below w1.heap.size w1 W2:=by rw [hW2];exact (ptg (gal w1 _) (gal _ _)).drew
   have q0:W2.cell? ⟨w.heap.size+4,0,none⟩=some (.int .i64 x1):=by rw [hW2];exact (((gal _ _).cell (by simp<;>omega)).trans (cell_newP (by omega) rfl))
   have q1:W2.cell? ⟨w.heap.size+4,1,none⟩=some (.int .i64 x2):=by rw [hW2];exact (((gal _ _).cell (by simp<;>omega)).trans (cell_newP (by omega) rfl))
   have q2:W2.cell? ⟨w.heap.size+4+1,0,none⟩=some (.int .i64 z1):=by rw [hW2];exact (cell_newP (by simp;omega) rfl)
   have q3:W2.cell? ⟨w.heap.size+4+1,1,none⟩=some (.int .i64 z2):=by rw [hW2];exact (cell_newP (by simp;omega) rfl)
   have hs2:W2.heap.size=w.heap.size+6:=by rw [hW2];simp [World.drew,hs1]
   rw [<- hW2]
   exact TL _ _ W2 (PB0.below hB2) q0 q1 q2 q3 hs2
 · obtain ⟨W2,hW2⟩:∃x,x=((w1.alloc (.cells #[.int .i64 z1,.int .i64 z2] 95)).alloc (.cells #[.int .i64 x1,.int .i64 x2] 95)).drew:=⟨_,rfl⟩
   have hB2:Below w1.heap.size w1 W2:=by rw [hW2];exact (ptg (gal w1 _) (gal _ _)).drew
   have q0:W2.cell? ⟨w.heap.size+4+1,0,none⟩=some (.int .i64 x1):=by rw [hW2];exact (cell_newP (by simp;omega) rfl)
   have q1:W2.cell? ⟨w.heap.size+4+1,1,none⟩=some (.int .i64 x2):=by rw [hW2];exact (cell_newP (by simp;omega) rfl)
   have q2:W2.cell? ⟨w.heap.size+4,0,none⟩=some (.int .i64 z1):=by rw [hW2];exact (((gal _ _).cell (by simp<;>omega)).trans (cell_newP (by omega) rfl))
   have q3:W2.cell? ⟨w.heap.size+4,1,none⟩=some (.int .i64 z2):=by rw [hW2];exact (((gal _ _).cell (by simp<;>omega)).trans (cell_newP (by omega) rfl))
   have hs2:W2.heap.size=w.heap.size+6:=by rw [hW2];simp [World.drew,hs1]
   rw [<- hW2]
   exact TL _ _ W2 (PB0.below hB2) q0 q1 q2 q3 hs2
theorem Tryz.infoPath:(Seq.prog.info? 130).map (fun i=>(i.zero,i.size,i.bytes))=some (some (.agg #[.int .i64 0,.int .i64 0,.int .i64 0,.int .i64 0,.int .i64 0]),5,40):=by kernel_rfl
def pthE (g:Gr) (p:Nat) (e:Ed) (j:Nat):List Pt:=(e.2.2.take j).flatMap fun l=>pthsL g p e l
def pthG (g:Gr) (p:Nat) (k:Nat):List Pt:=(g.edges.take k).flatMap fun e=>e.2.2.flatMap fun l=>pthsL g p e l
theorem pthE_succ (g:Gr) (p:Nat) (e:Ed) {j:Nat} (hj:j<e.2.2.length):pthE g p e (j+1)=pthE g p e j++pthsL g p e e.2.2[j]:=by
 unfold pthE;rw [List.take_succ_eq_append_getElem hj,List.flatMap_append,List.flatMap_singleton]
theorem pthE_all (g:Gr) (p:Nat) (e:Ed):pthE g p e e.2.2.length=e.2.2.flatMap fun l=>pthsL g p e l:=by unfold pthE;rw [List.take_length]
theorem pthG_succ (g:Gr) (p:Nat) {k:Nat} (hk:k<g.edges.length):pthG g p (k+1)=pthG g p k++pthE g p g.edges[k] g.edges[k].2.2.length:=by
 rw [pthE_all];unfold pthG;rw [List.take_succ_eq_append_getElem hk,List.flatMap_append,List.flatMap_singleton]
theorem pthG_all (g:Gr) (p:Nat):pthG g p g.edges.length=pathsF g p:=by unfold pthG pathsF;rw [List.take_length]
theorem pthG_len {g:Gr} (h0:gChk g=0) (p k:Nat):(pthG g p k).length <= 360:=by
 have R:=gChk_right h0
 have h1:=flatB_len (fun e:Ed=>e.2.2.flatMap fun l=>pthsL g p e l) 12 (g.edges.take k) (fun e he=>by
   have h2:=flatB_len (fun l=>pthsL g p e l) 2 e.2.2 (fun l _=>pthsL_len g p e l)
   have h3:=(R.ends e (List.mem_of_mem_take he)).2.2
   omega)
 have h4:=R.eds
 have h5:(g.edges.take k).length <= g.edges.length:=by rw [List.length_take];omega
 unfold pthG
 omega
theorem pthE_len {g:Gr} (p:Nat) {e:Ed} (he:e.2.2.length <= 6) (j:Nat):(pthE g p e j).length <= 12:=by
 have h2:=flatB_len (fun l=>pthsL g p e l) 2 (e.2.2.take j) (fun l _=>pthsL_len g p e l)
 have h5:(e.2.2.take j).length <= e.2.2.length:=by rw [List.length_take];omega
 unfold pthE
 omega
set_option maxRecDepth 100000 in
set_option maxHeartbeats 4000000 in
theorem bsPaths_any (g:Gr) (la ea:Option Addr) (lc ec p:Nat) (h0:gChk g=0) (hp3:p=1 \/ p=2 \/ p=3):PathsOk g la ea lc ec p:=by
 intro w hG
 obtain ⟨i0,hi,hz0,hz1,hz2⟩:=info_parts Tryz.infoPath
 obtain ⟨w1,hw1⟩:∃x,x=w.alloc (.cells #[.int .i64 g.hor,.slice la g.lives.length lc,.slice ea g.edges.length ec] 25):=⟨_,rfl⟩
 have B0:GBox w w1 w.heap.size g la ea lc ec:=by rw [hw1];exact gbox_start w g la ea lc ec 25
 have R:=gChk_right h0
 have hed:=R.eds
 have HRt:=hideg R
 have HG:=hideg hG
 have H0:=hideg h0
 have HB1:=hideg B0
 have g0:=B0.c0
 have g2:=B0.c2
 have hw1s:=hw1.symm
 clear hG B0 hw1 R h0
 go_enter Seq.func50,Tryz.ntmps50
 go_wp2_with fail
 clear hw1s
 go_loopw [5,14] (fun u d wr=>∃k:Nat,k <= g.edges.length /\ d= .int .i64 (k:Int) /\ wr.ownsRow w1.heap.size 130 5 u (pthG g p k).length (encPs (pthG g p k)) /\ Below w1.heap.size w1 wr) (fun _ d _=>g.edges.length-(intOf d).toNat)
 case atStart=>exact ⟨0,by omega,by simp,World.ownsRow_nil _ _ _ _,Below.refl _ _⟩
 case round=>
   clear g0 g2
   obtain ⟨k,hk,rfl,hown,hb⟩:=hrel
   have BR:=HB1.out.below hb
   have hol:=pthG_len H0.out p k
   by_cases hkl:k<g.edges.length
   · obtain ⟨b,off,lo,lcap,rfl,hbr,c0,c1,c2,hL⟩:∃b off lo lcap,ea=some ⟨b,off,none⟩ /\ b<w.heap.size /\ w.cell? ⟨b,off+k*3,none⟩=some (.int .i64 g.edges[k].1) /\ w.cell? ⟨b,off+k*3+1,none⟩=some (.int .i64 g.edges[k].2.1) /\ w.cell? ⟨b,off+k*3+2,none⟩=some (.slice lo g.edges[k].2.2.length lcap) /\ LgAt w lo g.edges[k].2.2:=by
       rcases HG.out.ed with h0 | ⟨b,off,rfl,hbr,hc⟩
       · rw [h0] at hkl;simp at hkl
       obtain ⟨c0,c1,lo,lcap,c2,hL,_,_⟩:=hc k hkl
       exact ⟨b,off,lo,lcap,rfl,hbr,c0,c1,c2,hL⟩
     have e0:=(BR.bel.cell (p:=⟨b,off+k*3,none⟩) hbr).trans c0
     have e1:=(BR.bel.cell (p:=⟨b,off+k*3+1,none⟩) hbr).trans c1
     have e2:=(BR.bel.cell (p:=⟨b,off+k*3+2,none⟩) hbr).trans c2
     have HL:=hideg hL
     obtain ⟨hA,hBe,hlen⟩:=HRt.out.ends _ (List.getElem_mem hkl)
     have HS:=hideg (pthG_succ g p hkl)
     generalize g.edges[k]=ed at*
     obtain ⟨wb,hwb⟩:∃x,x=wr.alloc (.cells #[.int .i64 ed.1,.int .i64 ed.2.1,.slice lo ed.2.2.length lcap] 47):=⟨_,rfl⟩
     have hbw:Below wr.heap.size wr wb:=by rw [hwb];exact gal _ _
     obtain ⟨Eb,hEb⟩:∃x,x=wr.heap.size:=⟨_,rfl⟩
     have hE0:wb.heap[Eb]? =some (.cells #[.int .i64 ed.1,.int .i64 ed.2.1,.slice lo ed.2.2.length lcap] 47):=by rw [hwb,hEb];show (wr.heap.push _)[_]? =_;simp
     have f2:wb.cell? ⟨Eb,2,none⟩=some (.slice lo ed.2.2.length lcap):=by simp [World.cell?,hE0]
     have hown0:=ownsRow_below hown hbw
     have hne0:u5.ownBlock≠some Eb:=fun e=>by have:=(hown.lt _ e).2;omega
     have hb0:Below w1.heap.size w1 wb:=hb.trans (hbw.mono hb.size)
     have hwbs:=hwb.symm
     have hEbs:=hEb.symm
     obtain ⟨out,hout⟩:∃o,o=pthG g p k:=⟨_,rfl⟩
     rw [<- hout] at hown0 hol HS
     have g2:=BR.c2
     clear hown hwb hEb c0 c1 c2 hL BR hb hbw
     go_wp2_with fail
     clear hwbs e0 e1 e2 g2
     go_loopw [5,21] (fun u i ws=>∃j:Nat,j <= ed.2.2.length /\ i= .int .i64 (j:Int) /\ ws.ownsRow w1.heap.size 130 5 u (out++pthE g p ed j).length (encPs (out++pthE g p ed j)) /\ Below w1.heap.size w1 ws /\ ws.heap[Eb]? =some (.cells #[.int .i64 ed.1,.int .i64 ed.2.1,.slice lo ed.2.2.length lcap] 47) /\ u.ownBlock≠some Eb) (fun _ i _=>ed.2.2.length-(intOf i).toNat)
     case atStart=>exact ⟨0,Nat.zero_le _,rfl,by simpa [pthE] using hown0,hb0,hE0,hne0⟩
     case round=>
       clear hown0 hb0 hE0 hne0 f2
       obtain ⟨j,hj,rfl,hown,hb,hEd,hne⟩:=hrel
       have BR:=HB1.out.below hb
       have hoe:=pthE_len (g:=g) p hlen j
       by_cases hjl:j<ed.2.2.length
       · obtain ⟨b2,off2,rfl,hb2,l0,l1,l2,l3⟩:∃b2 off2,lo=some ⟨b2,off2,none⟩ /\ b2<w.heap.size /\ w.cell? ⟨b2,off2+j*4,none⟩=some (.int .i64 ed.2.2[j].1) /\ w.cell? ⟨b2,off2+j*4+1,none⟩=some (.int .i64 ed.2.2[j].2.1) /\ w.cell? ⟨b2,off2+j*4+2,none⟩=some (.int .i64 ed.2.2[j].2.2.1) /\ w.cell? ⟨b2,off2+j*4+3,none⟩=some (.int .i64 ed.2.2[j].2.2.2):=by
           rcases HL.out with h0 | ⟨b2,off2,rfl,hlt,hc⟩
           · rw [h0] at hjl;simp at hjl
           · have h1:=hc j hjl
             have e:ed.2.2.getD j (0,0,0,0)=ed.2.2[j]:=by rw [List.getD_eq_getElem?_getD,List.getElem?_eq_getElem hjl];rfl
             rw [e] at h1
             exact ⟨b2,off2,rfl,hlt,h1⟩
         have m0:=(BR.bel.cell (p:=⟨b2,off2+j*4,none⟩) hb2).trans l0
         have m1:=(BR.bel.cell (p:=⟨b2,off2+j*4+1,none⟩) hb2).trans l1
         have m2:=(BR.bel.cell (p:=⟨b2,off2+j*4+2,none⟩) hb2).trans l2
         have m3:=(BR.bel.cell (p:=⟨b2,off2+j*4+3,none⟩) hb2).trans l3
         have HES:=hideg (pthE_succ g p ed hjl)
         generalize ed.2.2[j]=l at*
         obtain ⟨wl,hwl⟩:∃x,x=wr.alloc (.cells #[.int .i64 l.1,.int .i64 l.2.1,.int .i64 l.2.2.1,.int .i64 l.2.2.2] 69):=⟨_,rfl⟩
         have hbl:Below wr.heap.size wr wl:=by rw [hwl];exact gal _ _
         have BL:=BR.below hbl
         have hEl:Eb<wr.heap.size:=(Array.getElem?_eq_some_iff.1 hEd).1
         have hEd1:=(hbl.block Eb hEl).trans hEd
         have ga0:=BL.c0
         have ga1:=BL.c1
         have ga2:=BL.c2
         have ge0:wl.cell? ⟨Eb,0,none⟩=some (.int .i64 ed.1):=by simp [World.cell?,hEd1]
         have ge1:wl.cell? ⟨Eb,1,none⟩=some (.int .i64 ed.2.1):=by simp [World.cell?,hEd1]
         have ge2:wl.cell? ⟨Eb,2,none⟩=some (.slice (some ⟨b2,off2,none⟩) ed.2.2.length lcap):=by simp [World.cell?,hEd1]
         have gl0:wl.cell? ⟨wr.heap.size,0,none⟩=some (.int .i64 l.1):=by rw [hwl];exact cell_newP rfl rfl
         have gl1:wl.cell? ⟨wr.heap.size,1,none⟩=some (.int .i64 l.2.1):=by rw [hwl];exact cell_newP rfl rfl
         have gl2:wl.cell? ⟨wr.heap.size,2,none⟩=some (.int .i64 l.2.2.1):=by rw [hwl];exact cell_newP rfl rfl
         have gl3:wl.cell? ⟨wr.heap.size,3,none⟩=some (.int .i64 l.2.2.2):=by rw [hwl];exact cell_newP rfl rfl
         have hcl:=pathOf_any g la (some ⟨b,off,none⟩) (some ⟨b2,off2,none⟩) lc ec ed.2.2.length lcap p ed l wl (HG.out.below BL.bel) hA hBe hp3
         have hwls:=hwl.symm
         have HEd:=hideg hEd
         have HEl:=hideg hEl
         have HNe:=hideg hne
         have HBl:=hideg hbl
         have HBb:=hideg hb
         have HBR:=hideg BR
         clear hEd hEl hne hEd1 hbl hb BL BR hwl
         go_wp2_with fail
         refine hcl.mono ?_
         rintro e w3 ⟨rfl,hb3⟩
         have hEd:=HEd.out
         have hEl:=HEl.out
         have hne:=HNe.out
         have hbl:=HBl.out
         have hb:=HBb.out
         have HPT:Hid (pthsL g p ed l=if (pthOf g p ed l).2.2.2.1 <= (pthOf g p ed l).2.2.1 then [] else if p=3 then [pthOf g p ed l,((pthOf g p ed l).2.1,(pthOf g p ed l).1,(pthOf g p ed l).2.2)] else [pthOf g p ed l]):=rfl
         generalize pthOf g p ed l=π at*
         generalize pthsL g p ed l=nx at*
         obtain ⟨w4,hw4⟩:∃x,x=w3.alloc (.cells #[.int .i64 π.1,.int .i64 π.2.1,.int .i64 π.2.2.1,.int .i64 π.2.2.2.1,.int .i64 π.2.2.2.2] 130):=⟨_,rfl⟩
         have hb4:Below wr.heap.size wr w4:=by rw [hw4];exact ptg (ptg hbl hb3) (gal w3 _)
         have hP4:w4.heap[w3.heap.size]? =some (.cells #[.int .i64 π.1,.int .i64 π.2.1,.int .i64 π.2.2.1,.int .i64 π.2.2.2.1,.int .i64 π.2.2.2.2] 130):=by rw [hw4];show (w3.heap.push _)[_]? =_;simp
         have x0:w4.cell? ⟨w3.heap.size,0,none⟩=some (.int .i64 π.1):=by simp [World.cell?,hP4]
         have x1:w4.cell? ⟨w3.heap.size,1,none⟩=some (.int .i64 π.2.1):=by simp [World.cell?,hP4]
         have x2:w4.cell? ⟨w3.heap.size,2,none⟩=some (.int .i64 π.2.2.1):=by simp [World.cell?,hP4]
         have x3:w4.cell? ⟨w3.heap.size,3,none⟩=some (.int .i64 π.2.2.2.1):=by simp [World.cell?,hP4]
         have x4:w4.cell? ⟨w3.heap.size,4,none⟩=some (.int .i64 π.2.2.2.2):=by simp [World.cell?,hP4]
         have hs3:wr.heap.size <= w3.heap.size:=(ptg hbl hb3).size
         have hs4:w4.heap.size=w3.heap.size+1:=by rw [hw4];simp
         have o1:=ownsRow_below hown hb4
         have o2:Below w1.heap.size w1 w4:=hb.trans (hb4.mono hb.size)
         have hE4:=(hb4.block Eb hEl).trans hEd
         have hul:=fun z (e:u5.ownBlock=some z)=>(hown.lt z e).2
         have hw4s:=hw4.symm
         clear hcl hwls ga0 ga1 ga2 ge0 ge1 ge2 gl0 gl1 gl2 gl3 m0 m1 m2 m3 l0 l1 l2 l3 hw4 hown hb hEd hbl hb3 hb4
         by_cases hle:π.2.2.2.1 <= π.2.2.1
         · have hnx:nx=[]:=by rw [HPT.out,if_pos hle]
           have hd:decide (π.2.2.2.1 <= π.2.2.1)=true:=by simpa using hle
           have HO:=hideg o1
           have HO2:=hideg o2
           have HE4:=hideg hE4
           have HHS:=hideg HES.out
           clear o1 o2 hE4
           unfold ptV
           go_wp2_with fail
           exact ⟨⟨j+1,by omega,by go_num,by rw [HES.out,hnx,List.append_nil];exact HO.out,HO2.out,HE4.out,HNe.out⟩,by simp [intOf];omega⟩
         · have hd:decide (π.2.2.2.1 <= π.2.2.1)=false:=by simpa using hle
           have hs5:=o2.size
           have hll:(out++pthE g p ed j).length <= 400:=by rw [List.length_append];omega
           have HBg:Hid (∀(o:Obj) (w5:World),(w4.alloc o).grownBy w5 u5.ownBlock -> Below w1.heap.size w1 w5):=fun o w5 hgr=>(o2.alloc o2.size o).grown hgr (by have:=o2.size;simp at this ⊢;omega) (fun k hk=>(o1.lt k hk).1)
           have HGe:Hid (∀(o:Obj) (w5:World),(w4.alloc o).grownBy w5 u5.ownBlock -> ∀q,q<w4.heap.size -> u5.ownBlock≠some q -> w5.heap[q]? =w4.heap[q]?):=fun o w5 hgr q hq hn=>(hgr.block q (by simp;omega) (Ne.symm hn)).trans ((gal w4 o).block q hq)
           have HEn:Hid (Eb<w4.heap.size):=by show _<_;omega
           have HPb:Hid (u5.ownBlock≠some w3.heap.size):=fun e=>by have:=hul _ e;omega
           have HO:=hideg o1
           have HE4:=hideg hE4
           have HP4:=hideg hP4
           clear o1 o2 hE4 hP4 hul hEl hne
           by_cases p3:p=3
           · have p3i:((p:Int)==3)=true:=by simp;omega
             have hnx:nx=[π,(π.2.1,π.1,π.2.2)]:=by rw [HPT.out,if_neg hle,if_pos p3]
             clear p3
             have hs43:w3.heap.size<w4.heap.size:=by omega
             have hs1r:=HBb.out.size
             unfold ptV
             go_wp2_with (at_builtin;refine stopHereB ?_)
             refine hideg ?_
             refine wpList_append_own_at _ rfl _ _ 101 rfl w1.heap.size 130 i0 _ 5 40 ((Seq.pu 101).trans Tryz.underlying101) hi hz0 hz1 hz2 rfl (by decide) _ _ _ rfl (World.ownsRow.alloc (w:=w4) HO.out _) ⟨w3.heap.size+1,0,none⟩ 1 1 [.int .i64 π.1,.int .i64 π.2.1,.int .i64 π.2.2.1,.int .i64 π.2.2.2.1,.int .i64 π.2.2.2.2] rfl rfl (cells_five_new _ _ _ _ _ _ _ _ hs4.symm) (by intro u hu;simp at hu;rcases hu with rfl | rfl | rfl | rfl | rfl<;>rfl) (by unfold maxLen;omega) (by omega) (by simp;omega) ?_
             intro v' w5 hown5 hgrow _ hat
             have hb5:=HBg.out _ _ hgrow
             have hE5:=(HGe.out _ _ hgrow Eb HEn.out HNe.out).trans HE4.out
             have hP5:=(HGe.out _ _ hgrow w3.heap.size hs43 HPb.out).trans HP4.out
             have hn5:v'.ownBlock≠some Eb:=fun e=>by
               rcases hat with h | h
               · exact HNe.out (h.symm.trans e)
               · rw [h] at e;simp at e;have:=HEn.out;omega
             have hq5:v'.ownBlock≠some w3.heap.size:=fun e=>by
               rcases hat with h | h
               · exact HPb.out (h.symm.trans e)
               · rw [h] at e;simp at e;omega
             have hEP:w3.heap.size≠Eb:=fun e=>by rw [e] at hP5;rw [hP5] at hE5;simp at hE5
             have hs35:w3.heap.size<w5.heap.size:=(Array.getElem?_eq_some_iff.1 hP5).1
             have y0:w5.cell? ⟨w3.heap.size,0,none⟩=some (.int .i64 π.1):=by simp [World.cell?,hP5]
             have y1:w5.cell? ⟨w3.heap.size,1,none⟩=some (.int .i64 π.2.1):=by simp [World.cell?,hP5]
             have yf:∀q,w5.frozen? ⟨w3.heap.size,q,none⟩=false:=fun q=>by simp [World.frozen?,hP5]
             obtain ⟨w6,hw6⟩:∃x,x=(w5.setCell ⟨w3.heap.size,0,none⟩ (.int .i64 π.2.1)).setCell ⟨w3.heap.size,1,none⟩ (.int .i64 π.1):=⟨_,rfl⟩
             have hP6:w6.heap[w3.heap.size]? =some (.cells #[.int .i64 π.2.1,.int .i64 π.1,.int .i64 π.2.2.1,.int .i64 π.2.2.2.1,.int .i64 π.2.2.2.2] 130):=by rw [hw6];exact Low.setCell_this (Low.setCell_this hP5)
             have hs6:w6.heap.size=w5.heap.size:=by rw [hw6];simp [World.setCell]
             have R6:=ownsRow_setBox (j:=1) (u:= .int .i64 π.1) (ownsRow_setBox (j:=0) (u:= .int .i64 π.2.1) hown5 hq5) hq5
             rw [<- hw6] at R6
             have hb6:Below w1.heap.size w1 w6:=by rw [hw6];exact (hb5.setCell (p:=⟨w3.heap.size,0,none⟩) (by simp only;omega) _).setCell (p:=⟨w3.heap.size,1,none⟩) (by simp only;omega) _
             have hE6:w6.heap[Eb]? =some (.cells #[.int .i64 ed.1,.int .i64 ed.2.1,.slice (some ⟨b2,off2,none⟩) ed.2.2.length lcap] 47):=by rw [hw6,Low.setCell_other (by exact hEP),Low.setCell_other (by exact hEP)];exact hE5
             have z0:w6.cell? ⟨w3.heap.size,0,none⟩=some (.int .i64 π.2.1):=by simp [World.cell?,hP6]
             have z1:w6.cell? ⟨w3.heap.size,1,none⟩=some (.int .i64 π.1):=by simp [World.cell?,hP6]
             have z2:w6.cell? ⟨w3.heap.size,2,none⟩=some (.int .i64 π.2.2.1):=by simp [World.cell?,hP6]
             have z3:w6.cell? ⟨w3.heap.size,3,none⟩=some (.int .i64 π.2.2.2.1):=by simp [World.cell?,hP6]
             have z4:w6.cell? ⟨w3.heap.size,4,none⟩=some (.int .i64 π.2.2.2.2):=by simp [World.cell?,hP6]
             have hs7:=hb6.size
             have hw6s:=hw6.symm
             have HR6:=hideg R6
             have HB6:=hideg hb6
             have HE6:=hideg hE6
             have HN5:=hideg hn5
             have HE6l:Hid (Eb<w6.heap.size):=(Array.getElem?_eq_some_iff.1 hE6).1
             clear hgrow hat hown5 hb5 hE5 hP5 hn5 hq5 hEP x0 x1 x2 x3 x4 hw4s hw6 hP6 R6 hb6 hE6
             go_wp2_with (at_builtin;refine stopHereB ?_)
             refine hideg ?_
             refine wpList_append_own_at _ rfl _ _ 101 rfl w1.heap.size 130 i0 _ 5 40 ((Seq.pu 101).trans Tryz.underlying101) hi hz0 hz1 hz2 rfl (by decide) _ _ _ rfl (World.ownsRow.alloc (w:=w6) HR6.out _) ⟨w5.heap.size,0,none⟩ 1 1 [.int .i64 π.2.1,.int .i64 π.1,.int .i64 π.2.2.1,.int .i64 π.2.2.2.1,.int .i64 π.2.2.2.2] rfl rfl (cells_five_new _ _ _ _ _ _ _ _ hs6.symm) (by intro u hu;simp at hu;rcases hu with rfl | rfl | rfl | rfl | rfl<;>rfl) (by unfold maxLen;omega) (by omega) (by simp;omega) ?_
             intro v7 w7 hown7 hgrow7 _ hat7
             have hb7:Below w1.heap.size w1 w7:=(HB6.out.alloc HB6.out.size _).grown hgrow7 (by have:=HB6.out.size;simp at this ⊢;omega) (fun k hk=>(HR6.out.lt k hk).1)
             have hE7:=((hgrow7.block Eb (by simp;have:=HE6l.out;omega) (Ne.symm HN5.out)).trans ((gal w6 _).block Eb HE6l.out)).trans HE6.out
             have hn7:v7.ownBlock≠some Eb:=fun e=>by
               rcases hat7 with h | h
               · exact HN5.out (h.symm.trans e)
               · rw [h] at e;simp at e;have:=HE6l.out;omega
             have R7:w7.ownsRow w1.heap.size 130 5 v7 (out++pthE g p ed (j+1)).length (encPs (out++pthE g p ed (j+1))):=by
               rw [HES.out,hnx,<- List.append_assoc,show ([π,(π.2.1,π.1,π.2.2)]:List Pt)=[π]++[(π.2.1,π.1,π.2.2)] from rfl,<- List.append_assoc,encPs_append,encPs_append,List.length_append,List.length_append];exact hown7
             have HF:=hideg (And.intro R7 (And.intro hb7 (And.intro hE7 hn7)))
             clear hgrow7 hat7 hown7 R7 hb7 hE7 hn7 z0 z1 z2 z3 z4 hw6s hs4 hs6 hs7
             go_wp2_with fail
             exact ⟨⟨j+1,by omega,by go_num,HF.out.1,HF.out.2.1,HF.out.2.2.1,HF.out.2.2.2⟩,by simp [intOf];omega⟩
           · have p3i:((p:Int)==3)=false:=by simp;omega
             have hnx:nx=[π]:=by rw [HPT.out,if_neg hle,if_neg p3]
             unfold ptV
             go_wp2_with (at_builtin;refine stopHereB ?_)
             refine hideg ?_
             refine wpList_append_own_at _ rfl _ _ 101 rfl w1.heap.size 130 i0 _ 5 40 ((Seq.pu 101).trans Tryz.underlying101) hi hz0 hz1 hz2 rfl (by decide) _ _ _ rfl (World.ownsRow.alloc (w:=w4) HO.out _) ⟨w3.heap.size+1,0,none⟩ 1 1 [.int .i64 π.1,.int .i64 π.2.1,.int .i64 π.2.2.1,.int .i64 π.2.2.2.1,.int .i64 π.2.2.2.2] rfl rfl (cells_five_new _ _ _ _ _ _ _ _ hs4.symm) (by intro u hu;simp at hu;rcases hu with rfl | rfl | rfl | rfl | rfl<;>rfl) (by unfold maxLen;omega) (by omega) (by simp;omega) ?_
             intro v' w5 hown5 hgrow _ hat
             have hb5:=HBg.out _ _ hgrow
             have R5:w5.ownsRow w1.heap.size 130 5 v' (out++pthE g p ed (j+1)).length (encPs (out++pthE g p ed (j+1))):=by rw [HES.out,hnx,<- List.append_assoc,encPs_append,List.length_append];exact hown5
             have hE5:=(HGe.out _ _ hgrow Eb HEn.out HNe.out).trans HE4.out
             have hn5:v'.ownBlock≠some Eb:=fun e=>by
               rcases hat with h | h
               · exact HNe.out (h.symm.trans e)
               · rw [h] at e;simp at e;have:=HEn.out;omega
             have HF:=hideg (And.intro R5 (And.intro hb5 (And.intro hE5 hn5)))
             clear hgrow hat hown5 R5 hb5 hE5 hn5 x0 x1 x2 x3 x4 hw4s
             go_wp2_with fail
             exact ⟨⟨j+1,by omega,by go_num,HF.out.1,HF.out.2.1,HF.out.2.2.1,HF.out.2.2.2⟩,by simp [intOf];omega⟩
       · have hjn:j=ed.2.2.length:=by omega
         subst hjn
         rw [<- HS.out] at hown
         clear BR
         go_wp2
         go_roundw
         case rel=>exact ⟨k+1,by omega,by go_num,hown,hb⟩
         case measure=>simp [intOf];omega
   · have hke:k=g.edges.length:=by omega
     subst hke
     rw [pthG_all] at hown
     have R:=owns_base2 hown HB1.out.bel.size
     have hbF:=BR.bel
     clear hown BR
     go_wp2
     go_ret
     exact ⟨_,rfl,R,hbF⟩
theorem plF_few {g:Gr} (h0:gChk g=0) (p:Nat) (fr:Int) (t:Nat):(plF g p fr t).2 <= g.lives.length:=by
 obtain ⟨k,e,h1,h2,_⟩:=plF_is h0 p fr t
 rw [e]
 rcases Nat.lt_or_ge g.lives.length k with c | c
 · exfalso
   have:=(runsX h0 p fr (t:Int)).still (r:=g.lives.length) (by omega)
   exact h2 g.lives.length c this
 · exact c
theorem plF_near {g:Gr} (h0:gChk g=0) {p:Nat} (hp:p=1 \/ p=2 \/ p=3) (fr:Int) (t:Nat) {v:Nat} (hv:v<g.lives.length) (hl:(plF g p fr t).1.getD v 0<1099511627776):0 <= (plF g p fr t).1.getD v 0 /\ (plF g p fr t).1.getD v 0 <= 100000:=by
 have S:=shot_snap (gChk_right h0) (t:Int)
 have hk:=plF_few h0 p fr t
 have h12:=(gChk_right h0).lvs
 obtain ⟨k,e,h1,h2,_⟩:=plF_is h0 p fr t
 have R:PlIs g p fr t (XX g p fr k t) k:=plIs_iff.2 ⟨rfl,h1,h2⟩
 rw [e] at hl hk ⊢
 simp only at hl hk ⊢
 unfold PlIs at R
 have F:=fine_prog S fr hp
 have B:=rounds_best F.1 F.2 R
 have lo:=B.mid.lo F.1 v (by rw [firstL_length,aliveL_length];exact hv)
 have sm:=(runsX h0 p fr (t:Int)).small (B:=12) (fun v hv hlt=>(first_hi h12 v hv).2 hlt) k v hv hl
 exact ⟨lo,by omega⟩
end Go.Proofs.YtfphigmeppdocaaGreat.Q
