/-
  Several texts in one.
-/
import Derived.Shelf.Abstract
import Derived.Shelf.Small.Bits
import Derived.Shelf.Strconv.Itoa0
import Derived.Shelf.Sort.Plain
import Derived.Shelf.Bits.Mul64
import Derived.Ground.Names2Prog
import Derived.Shelf.Slices.Clone
import Derived.Shelf.Slices.CompactI
import Derived.Shelf.Slices.SearchI
import Derived.Shelf.Slices.Cells
import Derived.Shelf.Slices.In.SortNone
import Derived.Ground.SlgnProg
import Derived.Shelf.SlicesE.Clone
import Derived.Ground.NamesProg
import Derived.Laws.CopyOwn
import Derived.OneCell
import Derived.Test.YtfphigmeppdocaaGreatPk6
namespace Go.Proofs.YtfphigmeppdocaaGreat.Q
open Lo (Seq.prog)
open Go.RowKit
theorem wrap_nj (n:Int) (h0: -9223372036854775808 <= n) (h1:n<9223372036854775808):IntKind.i64.wrap n=n:=by
 simp only [IntKind.wrap,IntKind.bits,IntKind.signed]
 simp
 omega
theorem set3 {w W:World} (h:Below w.heap.size w W) {b:Nat} (hb:w.heap.size <= b) (x y z:Value):Below w.heap.size w (((W.setCell ⟨b,0,none⟩ x).setCell ⟨b,1,none⟩ y).setCell ⟨b,2,none⟩ z):=
 ((h.setCell (p:=⟨b,0,none⟩) hb _).setCell (p:=⟨b,1,none⟩) hb _).setCell (p:=⟨b,2,none⟩) hb _
def nextV (q:Int×Int×Int) (b:Bool):Value:= .tuple #[.agg #[.int .i64 q.1,.int .i64 q.2.1,.int .i64 q.2.2],.bool b]
theorem new_cell {W:World} {cs:Array Value} {T:TypeId} {b j:Nat} {x:Value} (hb:b=W.heap.size) (hx:cs[j]? =some x):(W.alloc (.cells cs T)).cell? ⟨b,j,none⟩=some x:=by subst hb;simp [hx]
theorem new_frozen {W:World} {cs:Array Value} {T:TypeId} {b j:Nat} (hb:b=W.heap.size):(W.alloc (.cells cs T)).frozen? ⟨b,j,none⟩=false:=by subst hb;simp
structure NB (w W:World) (N:Nat) (g:Gr) (la ea:Option Addr) (lc ec:Nat) (v t c E d A B:Int):Prop where
 g0:W.cell? ⟨N,0,none⟩=some (.int .i64 g.hor)
 g1:W.cell? ⟨N,1,none⟩=some (.slice la g.lives.length lc)
 g2:W.cell? ⟨N,2,none⟩=some (.slice ea g.edges.length ec)
 s0:W.cell? ⟨N+1,0,none⟩=some (.int .i64 v)
 s1:W.cell? ⟨N+1,1,none⟩=some (.int .i64 t)
 s2:W.cell? ⟨N+1,2,none⟩=some (.int .i64 c)
 h0:W.cell? ⟨N+1+1,0,none⟩=some (.int .i64 E)
 h1:W.cell? ⟨N+1+1,1,none⟩=some (.int .i64 d)
 r0:W.cell? ⟨N+1+1+1,0,none⟩=some (.int .i64 0)
 r1:W.cell? ⟨N+1+1+1,1,none⟩=some (.int .i64 0)
 r2:W.cell? ⟨N+1+1+1,2,none⟩=some (.int .i64 0)
 fz:∀j,W.frozen? ⟨N+1+1+1,j,none⟩=false
 e0:W.cell? ⟨N+1+1+1+1,0,none⟩=some (.int .i64 A)
 e1:W.cell? ⟨N+1+1+1+1,1,none⟩=some (.int .i64 B)
 bel:Below w.heap.size w W
 lt:N+1+1+1+1<W.heap.size
theorem NB.below {w W W' :World} {N:Nat} {g:Gr} {la ea:Option Addr} {lc ec:Nat} {v t c E d A B:Int} (h:NB w W N g la ea lc ec v t c E d A B) (hb:Below W.heap.size W W'):NB w W' N g la ea lc ec v t c E d A B:=by
 have hl:=h.lt
 have hs:=hb.size
 have q:∀b j x,b<W.heap.size -> W.cell? ⟨b,j,none⟩=some x -> W'.cell? ⟨b,j,none⟩=some x:=fun b j x hlt hx=>(hb.cell (p:=⟨b,j,none⟩) hlt).trans hx
 exact ⟨q _ _ _ (by omega) h.g0,q _ _ _ (by omega) h.g1,q _ _ _ (by omega) h.g2,q _ _ _ (by omega) h.s0,q _ _ _ (by omega) h.s1,q _ _ _ (by omega) h.s2,q _ _ _ (by omega) h.h0,q _ _ _ (by omega) h.h1,q _ _ _ (by omega) h.r0,q _ _ _ (by omega) h.r1,q _ _ _ (by omega) h.r2,fun j=>(hb.frozen (p:=⟨N+1+1+1,j,none⟩) (by simp only;omega)).trans (h.fz j),q _ _ _ (by omega) h.e0,q _ _ _ (by omega) h.e1,ptg h.bel hb,by omega⟩
theorem nb_start (w:World) (g:Gr) (la ea lo:Option Addr) (lc ec n lcap:Nat) (v t c E d A B:Int) (T1 T2 T3 T4:TypeId):
   NB w (((((w.alloc (.cells #[.int .i64 g.hor,.slice la g.lives.length lc,.slice ea g.edges.length ec] T1)).alloc (.cells #[.int .i64 v,.int .i64 t,.int .i64 c] T2)).alloc (.cells #[.int .i64 E,.int .i64 d] T3)).alloc (.cells #[.int .i64 0,.int .i64 0,.int .i64 0] T2)).alloc (.cells #[.int .i64 A,.int .i64 B,.slice lo n lcap] T4)) w.heap.size g la ea lc ec v t c E d A B:=
 ⟨by rw [(gal _ _).cell (by simp<;>omega)];rw [(gal _ _).cell (by simp<;>omega)];rw [(gal _ _).cell (by simp<;>omega)];rw [(gal _ _).cell (by simp<;>omega)];exact new_cell (by simp) rfl,by rw [(gal _ _).cell (by simp<;>omega)];rw [(gal _ _).cell (by simp<;>omega)];rw [(gal _ _).cell (by simp<;>omega)];rw [(gal _ _).cell (by simp<;>omega)];exact new_cell (by simp) rfl,by rw [(gal _ _).cell (by simp<;>omega)];rw [(gal _ _).cell (by simp<;>omega)];rw [(gal _ _).cell (by simp<;>omega)];rw [(gal _ _).cell (by simp<;>omega)];exact new_cell (by simp) rfl,by rw [(gal _ _).cell (by simp<;>omega)];rw [(gal _ _).cell (by simp<;>omega)];rw [(gal _ _).cell (by simp<;>omega)];exact new_cell (by simp) rfl,by rw [(gal _ _).cell (by simp<;>omega)];rw [(gal _ _).cell (by simp<;>omega)];rw [(gal _ _).cell (by simp<;>omega)];exact new_cell (by simp) rfl,by rw [(gal _ _).cell (by simp<;>omega)];rw [(gal _ _).cell (by simp<;>omega)];rw [(gal _ _).cell (by simp<;>omega)];exact new_cell (by simp) rfl,by rw [(gal _ _).cell (by simp<;>omega)];rw [(gal _ _).cell (by simp<;>omega)];exact new_cell (by simp) rfl,by rw [(gal _ _).cell (by simp<;>omega)];rw [(gal _ _).cell (by simp<;>omega)];exact new_cell (by simp) rfl,by rw [(gal _ _).cell (by simp<;>omega)];exact new_cell (by simp) rfl,by rw [(gal _ _).cell (by simp<;>omega)];exact new_cell (by simp) rfl,by rw [(gal _ _).cell (by simp<;>omega)];exact new_cell (by simp) rfl,fun j=>by rw [(gal _ _).frozen (by simp<;>omega)];exact new_frozen (by simp),by exact new_cell (by simp) rfl,by exact new_cell (by simp) rfl,ptg (ptg (ptg (ptg (gal _ _) (gal _ _)) (gal _ _)) (gal _ _)) (gal _ _),by simp⟩
set_option maxRecDepth 100000 in
set_option maxHeartbeats 8000000 in
theorem next_any (g:Gr) (la ea:Option Addr) (lc ec:Nat) (s:Int×Int×Int) (h:Hp) (R:Right g) (hv0:0 <= s.1) (hv1:s.1<g.lives.length) (hc0:0 <= s.2.2) (hc1:s.2.2 <= 1000000):
   ∃q:Int×Int×Int,(∀s',nextF g s h=some s' -> q=s') /\ ∀w:World,GAt w la ea g ->
     Calls Seq.prog 84 #[.agg #[.int .i64 g.hor,.slice la g.lives.length lc,.slice ea g.edges.length ec],.agg #[.int .i64 s.1,.int .i64 s.2.1,.int .i64 s.2.2],.agg #[.int .i64 h.1,.int .i64 h.2]] w fun r w' =>r= .returned (nextV q (nextF g s h).isSome) /\ Below w.heap.size w w':=by
 have HB:Hid (∀(w:World) o1 o2 o3 o4,Below w.heap.size w ((((w.alloc o1).alloc o2).alloc o3).alloc o4)):=fun w o1 o2 o3 o4=>ptg (ptg (ptg (gal w o1) (gal _ o2)) (gal _ o3)) (gal _ o4)
 by_cases k0:0 <= h.1 /\ h.1<g.edges.length
 case neg=>
   have HN:=hideg (nextF_out (s:=s) k0)
   refine ⟨(0,0,0),fun s' e=>(by rw [HN.out] at e;cases e),fun w hG=> ?_⟩
   rw [HN.out]
   have hor:h.1<0 \/ (¬h.1<0 /\ (g.edges.length:Int) <= h.1):=by omega
   clear k0 hG R
   rcases hor with k1 | ⟨k1,k2⟩
   all_goals
     go_enter Seq.func84,Tryz.ntmps84
     go_wp2
     refine bodyPost_ret (v:=nextV (0,0,0) false) (by simp [results,Tryz.results84,go_sem,nextV]) rfl ⟨rfl,?_⟩
     exact HB.out _ _ _ _ _
 obtain ⟨E,eE⟩:∃E:Nat,h.1=(E:Int):=⟨h.1.toNat,by omega⟩
 have hE:E<g.edges.length:=by omega
 have hk0:¬h.1<0:=by omega
 have hk1:¬(g.edges.length:Int) <= h.1:=by omega
 have hem:g.edges[E]∈g.edges:=List.getElem_mem hE
 obtain ⟨hA,hBe,hln⟩:=R.ends _ hem
 have hed:=R.eds
 have hlv:=R.lvs
 have hhor:=R.hor
 have HNo:=hideg (fun k=>nextF_no (g:=g) (s:=s) eE hE k)
 have HLeg:=hideg (fun l k1 k2 k3 k4 k5=>nextF_leg R (s:=s) (h:=h) (l:=l) eE hE k1 k2 k3 k4 k5)
 have HFit:Hid (∀l,lgFind h.2 g.edges[E].2.2=some l -> (0 <= h.2 /\ h.2<100) /\ (0 <= l.2.2.1 /\ l.2.2.1 <= 50) /\ 0 <= l.2.2.2 /\ l.2.2.2 <= 1000):=by
   intro l hl
   obtain ⟨h1,h2,h3⟩:=lgFind_mem hl
   have:=(fitB_iff _ _).1 (R.legs _ hem l h1)
   omega
 have HEd:Hid (∀w,GAt w la ea g -> ∃b off lo lcap,ea=some ⟨b,off,none⟩ /\ b<w.heap.size /\ w.cell? ⟨b,off+E*3,none⟩=some (.int .i64 g.edges[E].1) /\ w.cell? ⟨b,off+E*3+1,none⟩=some (.int .i64 g.edges[E].2.1) /\ w.cell? ⟨b,off+E*3+2,none⟩=some (.slice lo g.edges[E].2.2.length lcap) /\ LgAt w lo g.edges[E].2.2):=by
   intro w hG
   rcases hG.ed with h0 | ⟨b,off,rfl,hbr,hc⟩
   · rw [h0] at hE;simp at hE
   obtain ⟨c0,c1,lo,lcap,c2,hL,_,_⟩:=hc E hE
   exact ⟨b,off,lo,lcap,rfl,hbr,c0,c1,c2,hL⟩
 have hEi:(E:Int)<(g.edges.length:Int):=by omega
 have hE0:(0:Int) <= (E:Int):=by omega
 generalize hed' :g.edges[E]=ed at*
 clear hed' hem
 obtain ⟨A,B,legs⟩:=ed
 simp only at hA hBe hln HNo HLeg HFit HEd
 rw [eE] at hk0 hk1
 obtain ⟨h1,ht⟩:=h
 simp only at eE
 subst eE
 obtain ⟨v,t0,c0⟩:=s
 simp only at hv0 hv1 hc0 hc1 HNo HLeg HFit HEd ⊢
 clear k0
 cases hf:lgFind ht legs with
 | none=>
   have HN:=hideg (HNo.out (.inl hf))
   refine ⟨(0,0,0),fun s' e=>(by rw [HN.out] at e;cases e),fun w hG=> ?_⟩
   rw [HN.out]
   have hB4:=HB.out w (.cells #[.int .i64 g.hor,.slice la g.lives.length lc,.slice ea g.edges.length ec] 25) (.cells #[.int .i64 v,.int .i64 t0,.int .i64 c0] 157) (.cells #[.int .i64 (E:Int),.int .i64 ht] 63) (.cells #[.int .i64 0,.int .i64 0,.int .i64 0] 157)
   obtain ⟨b,off,lo,lcap,rfl,hbr,c0',c1',c2',hL⟩:=HEd.out _ (hG.below hB4)
   have hLg:=fun W (hb:Below _ _ W)=>legAt_any A B lo lcap legs ht W (hL.below hb) (by omega)
   simp only [hf] at hLg
   unfold legV at hLg
   simp only [Option.getD_none,Option.isSome_none] at hLg
   clear hf hG R HNo HLeg HFit HEd
   go_enter Seq.func84,Tryz.ntmps84
   go_wp2_with fail
   refine (hLg _ (gal _ _)).mono ?_
   rintro r w1 ⟨rfl,hb1⟩
   have N2:=((nb_start w g la (some ⟨b,off,none⟩) lo lc ec legs.length lcap v t0 c0 E ht A B 25 157 63 47).below hb1).below (gal w1 (.cells #[.int .i64 0,.int .i64 0,.int .i64 0,.int .i64 0] 69))
   have r0:=N2.r0
   have r1:=N2.r1
   have r2:=N2.r2
   have fz:=N2.fz
   have lt:=N2.lt
   have hbF:=N2.bel
   clear hLg hb1 c0' c1' c2' hL hB4 N2
   go_wp2
   go_quiet (fail)
   go_wp2
   refine bodyPost_ret (v:=nextV (0,0,0) false) (by simp [results,Tryz.results84,go_sem,nextV,r0,r1,r2]) rfl ⟨rfl,?_⟩
   exact set3 (below_drewN hbF _) (by omega) _ _ _
 | some l=>
   obtain ⟨⟨hd0,hd1⟩,⟨hl0,hl1⟩,hl2,hl3⟩:=HFit.out l hf
   obtain ⟨V,rfl⟩:∃V:Nat,v=(V:Int):=⟨v.toNat,by omega⟩
   obtain ⟨Bn,rfl⟩:∃V:Nat,B=(V:Int):=⟨B.toNat,by omega⟩
   have hV:V<g.lives.length:=by omega
   have hBn:Bn<g.lives.length:=by omega
   have HLv:Hid (∀(k:Nat) (hk:k<g.lives.length) w,GAt w la ea g -> ∃b off,la=some ⟨b,off,none⟩ /\ b<w.heap.size /\ w.cell? ⟨b,off+k*2,none⟩=some (.int .i64 g.lives[k].1) /\ w.cell? ⟨b,off+k*2+1,none⟩=some (.int .i64 g.lives[k].2)):=by
     intro k hk w hG
     rcases hG.lv with h0 | ⟨b,off,rfl,hbr,hc⟩
     · rw [h0] at hk;simp at hk
     exact ⟨b,off,rfl,hbr,IvAt.get hk hc⟩
   have hAV:=fun x=>aliveB_at x g.lives V hV
   have hAB:=fun x=>aliveB_at x g.lives Bn hBn
   have HLV:=hideg (HLv.out V hV)
   have HLB:=hideg (HLv.out Bn hBn)
   generalize g.lives[V]=p1 at*
   generalize g.lives[Bn]=p2 at*
   obtain ⟨a1,b1⟩:=p1
   obtain ⟨a2,b2⟩:=p2
   simp only at hAV hAB HLV HLB
   have hVi:(V:Int)<(g.lives.length:Int):=by omega
   have hV0:(0:Int) <= (V:Int):=by omega
   have hBi:(Bn:Int)<(g.lives.length:Int):=by omega
   have hB0:(0:Int) <= (Bn:Int):=by omega
   by_cases hav:A=(V:Int)
   case neg=>
     have HN:=hideg (HNo.out (.inr (.inl hav)))
     have d1:(A !=(V:Int))=true:=by simpa using hav
     refine ⟨(0,0,0),fun s' e=>(by rw [HN.out] at e;cases e),fun w hG=> ?_⟩
     rw [HN.out]
     have hB4:=HB.out w (.cells #[.int .i64 g.hor,.slice la g.lives.length lc,.slice ea g.edges.length ec] 25) (.cells #[.int .i64 (V:Int),.int .i64 t0,.int .i64 c0] 157) (.cells #[.int .i64 (E:Int),.int .i64 ht] 63) (.cells #[.int .i64 0,.int .i64 0,.int .i64 0] 157)
     obtain ⟨b,off,lo,lcap,rfl,hbr,c0',c1',c2',hL⟩:=HEd.out _ (hG.below hB4)
     have hLg:=fun W (hb:Below _ _ W)=>legAt_any A Bn lo lcap legs ht W (hL.below hb) (by omega)
     simp only [hf] at hLg
     unfold legV at hLg
     simp only [Option.getD_some,Option.isSome_some] at hLg
     clear hf R HNo HLeg HFit HEd
     go_enter Seq.func84,Tryz.ntmps84
     go_wp2_with fail
     refine (hLg _ (gal _ _)).mono ?_
     rintro r w1 ⟨rfl,hb1⟩
     have N2:=((nb_start w g la (some ⟨b,off,none⟩) lo lc ec legs.length lcap V t0 c0 E ht A Bn 25 157 63 47).below hb1).below (gal w1 (.cells #[.int .i64 l.1,.int .i64 l.2.1,.int .i64 l.2.2.1,.int .i64 l.2.2.2] 69))
     have lg2:(w1.alloc (.cells #[.int .i64 l.1,.int .i64 l.2.1,.int .i64 l.2.2.1,.int .i64 l.2.2.2] 69)).cell? ⟨w1.heap.size,2,none⟩=some (.int .i64 l.2.2.1):=new_cell rfl rfl
     have lg3:(w1.alloc (.cells #[.int .i64 l.1,.int .i64 l.2.1,.int .i64 l.2.2.1,.int .i64 l.2.2.2] 69)).cell? ⟨w1.heap.size,3,none⟩=some (.int .i64 l.2.2.2):=new_cell rfl rfl
     have ltL:w1.heap.size<(w1.alloc (.cells #[.int .i64 l.1,.int .i64 l.2.1,.int .i64 l.2.2.1,.int .i64 l.2.2.2] 69)).heap.size:=by simp
     clear hLg hb1 c0' c1' c2' hL hB4
     have N3:=N2
     have hbF:=N3.bel
     have r0:=N3.r0
     have r1:=N3.r1
     have r2:=N3.r2
     have fz:=N3.fz
     have lt:=N3.lt
     have e0:=N2.e0
     have s0:=N2.s0
     clear N2 N3 HLV HLB HLv
     go_wp2
     go_quiet (fail)
     go_wp2
     refine bodyPost_ret (v:=nextV (0,0,0) false) (by simp [results,Tryz.results84,go_sem,nextV,r0,r1,r2]) rfl ⟨rfl,?_⟩
     exact set3 (below_drewN hbF _) (by omega) _ _ _
   subst hav
   cases hW:(decide (t0 <= ht)&&(hasB a1 b1 t0&&hasB a1 b1 ht)) with
   | false=>
     have HN:Hid (nextF g ((V:Int),t0,c0) ((E:Int),ht)=none):=by
       refine HNo.out (.inr (.inr ?_))
       rw [hAV,hAV]
       by_cases k1:t0 <= ht
       · rw [decide_eq_true k1,Bool.true_and,Bool.and_eq_false_iff] at hW
         exact .inr hW
       · exact .inl k1
     refine ⟨(0,0,0),fun s' e=>(by rw [HN.out] at e;cases e),fun w hG=> ?_⟩
     rw [HN.out]
     have hWt:=fun W=>jwaits_any a1 b1 t0 ht W
     rw [hW] at hWt
     have hB4:=HB.out w (.cells #[.int .i64 g.hor,.slice la g.lives.length lc,.slice ea g.edges.length ec] 25) (.cells #[.int .i64 (V:Int),.int .i64 t0,.int .i64 c0] 157) (.cells #[.int .i64 (E:Int),.int .i64 ht] 63) (.cells #[.int .i64 0,.int .i64 0,.int .i64 0] 157)
     obtain ⟨b,off,lo,lcap,rfl,hbr,c0',c1',c2',hL⟩:=HEd.out _ (hG.below hB4)
     have hLg:=fun W (hb:Below _ _ W)=>legAt_any V Bn lo lcap legs ht W (hL.below hb) (by omega)
     simp only [hf] at hLg
     unfold legV at hLg
     simp only [Option.getD_some,Option.isSome_some] at hLg
     clear hf R HNo HLeg HFit HEd
     go_enter Seq.func84,Tryz.ntmps84
     go_wp2_with fail
     refine (hLg _ (gal _ _)).mono ?_
     rintro r w1 ⟨rfl,hb1⟩
     have N2:=((nb_start w g la (some ⟨b,off,none⟩) lo lc ec legs.length lcap V t0 c0 E ht V Bn 25 157 63 47).below hb1).below (gal w1 (.cells #[.int .i64 l.1,.int .i64 l.2.1,.int .i64 l.2.2.1,.int .i64 l.2.2.2] 69))
     have lg2:(w1.alloc (.cells #[.int .i64 l.1,.int .i64 l.2.1,.int .i64 l.2.2.1,.int .i64 l.2.2.2] 69)).cell? ⟨w1.heap.size,2,none⟩=some (.int .i64 l.2.2.1):=new_cell rfl rfl
     have lg3:(w1.alloc (.cells #[.int .i64 l.1,.int .i64 l.2.1,.int .i64 l.2.2.1,.int .i64 l.2.2.2] 69)).cell? ⟨w1.heap.size,3,none⟩=some (.int .i64 l.2.2.2):=new_cell rfl rfl
     have ltL:w1.heap.size<(w1.alloc (.cells #[.int .i64 l.1,.int .i64 l.2.1,.int .i64 l.2.2.1,.int .i64 l.2.2.2] 69)).heap.size:=by simp
     clear hLg hb1 c0' c1' c2' hL hB4
     go_wp2_with fail
     generalize w1.alloc (.cells #[.int .i64 l.1,.int .i64 l.2.1,.int .i64 l.2.2.1,.int .i64 l.2.2.2] 69)=W0 at*
     obtain ⟨lb,lof,rfl,hlb,lv0,lv1⟩:=HLV.out W0 (hG.below N2.bel)
     have hne:Nonempty (HeldIn W0):=⟨⟨W0,Below.refl _ _⟩⟩
     have f0:∀s:HeldIn W0,s.w.cell? ⟨w.heap.size,1,none⟩=some (.slice (some ⟨lb,lof,none⟩) g.lives.length lc):=fun s=>(N2.below s.h).g1
     have f1:∀s:HeldIn W0,s.w.cell? ⟨w.heap.size+1,0,none⟩=some (.int .i64 V):=fun s=>(N2.below s.h).s0
     have f2:∀s:HeldIn W0,s.w.cell? ⟨w.heap.size+1,1,none⟩=some (.int .i64 t0):=fun s=>(N2.below s.h).s1
     have f3:∀s:HeldIn W0,s.w.cell? ⟨w.heap.size+1+1,1,none⟩=some (.int .i64 ht):=fun s=>(N2.below s.h).h1
     have f4:∀s:HeldIn W0,s.w.cell? ⟨w.heap.size+1+1+1+1,0,none⟩=some (.int .i64 V):=fun s=>(N2.below s.h).e0
     have f5:∀s:HeldIn W0,s.w.cell? ⟨lb,lof+V*2,none⟩=some (.int .i64 a1):=fun s=>(s.h.cell (p:=⟨lb,lof+V*2,none⟩) hlb).trans lv0
     have f6:∀s:HeldIn W0,s.w.cell? ⟨lb,lof+V*2+1,none⟩=some (.int .i64 b1):=fun s=>(s.h.cell (p:=⟨lb,lof+V*2+1,none⟩) hlb).trans lv1
     have HN2:=hideg N2
     clear N2 HLV HLB HLv hG lg2 lg3 ltL lv0 lv1
     refine wp_region_held W0 (Below.refl _ _) (by kernel_rfl) (by kernel_rfl) ?_
     repeat (go_big_quiet_step ((go_at_call 115;exact held_of (hWt _))))
     refine wpQuiet_nil ?_
     rintro _ ⟨s,rfl⟩
     have N3:=HN2.out.below s.h
     clear f0 f1 f2 f3 f4 f5 f6 hne
     generalize s.w=w3 at N3 ⊢
     have hbF:=N3.bel
     have r0:=N3.r0
     have r1:=N3.r1
     have r2:=N3.r2
     have fz:=N3.fz
     have lt:=N3.lt
     clear N3 HN2
     go_wp2
     refine bodyPost_ret (v:=nextV (0,0,0) false) (by simp [results,Tryz.results84,go_sem,nextV,r0,r1,r2]) rfl ⟨rfl,?_⟩
     exact set3 hbF (by omega) _ _ _
   | true=>
     obtain ⟨hW1,hW2⟩:t0 <= ht /\ (hasB a1 b1 t0=true /\ hasB a1 b1 ht=true):=by
       rw [Bool.and_eq_true,Bool.and_eq_true,decide_eq_true_eq] at hW;exact hW
     have HN:=hideg (HLeg.out l hf rfl hW1 (by rw [hAV];exact hW2.1) (by rw [hAV];exact hW2.2))
     rw [hAB] at HN
     refine ⟨((Bn:Int),ht+l.2.2.1,c0+l.2.2.2),fun s' e=>(by rw [HN.out] at e;split at e<;>cases e;rfl),fun w hG=> ?_⟩
     have HQ:Hid ((nextF g ((V:Int),t0,c0) ((E:Int),ht)).isSome=hasB a2 b2 (ht+l.2.2.1)):=by
       show _=_
       rw [HN.out]
       cases hasB a2 b2 (ht+l.2.2.1)<;>rfl
     rw [HQ.out]
     have hAl:=fun W=>jalive_any a2 b2 (ht+l.2.2.1) W
     generalize hasB a2 b2 (ht+l.2.2.1)=bF at*
     have hw1:IntKind.i64.wrap (ht+l.2.2.1)=ht+l.2.2.1:=wrap_nj _ (by omega) (by omega)
     have hw2:IntKind.i64.wrap (c0+l.2.2.2)=c0+l.2.2.2:=wrap_nj _ (by omega) (by omega)
     clear HN HQ hW1 hW2
     have hWt:=fun W=>jwaits_any a1 b1 t0 ht W
     rw [hW] at hWt
     have hB4:=HB.out w (.cells #[.int .i64 g.hor,.slice la g.lives.length lc,.slice ea g.edges.length ec] 25) (.cells #[.int .i64 (V:Int),.int .i64 t0,.int .i64 c0] 157) (.cells #[.int .i64 (E:Int),.int .i64 ht] 63) (.cells #[.int .i64 0,.int .i64 0,.int .i64 0] 157)
     obtain ⟨b,off,lo,lcap,rfl,hbr,c0',c1',c2',hL⟩:=HEd.out _ (hG.below hB4)
     have hLg:=fun W (hb:Below _ _ W)=>legAt_any V Bn lo lcap legs ht W (hL.below hb) (by omega)
     simp only [hf] at hLg
     unfold legV at hLg
     simp only [Option.getD_some,Option.isSome_some] at hLg
     clear hf R HNo HLeg HFit HEd
     go_enter Seq.func84,Tryz.ntmps84
     go_wp2_with fail
     refine (hLg _ (gal _ _)).mono ?_
     rintro r w1 ⟨rfl,hb1⟩
     have N2:=((nb_start w g la (some ⟨b,off,none⟩) lo lc ec legs.length lcap V t0 c0 E ht V Bn 25 157 63 47).below hb1).below (gal w1 (.cells #[.int .i64 l.1,.int .i64 l.2.1,.int .i64 l.2.2.1,.int .i64 l.2.2.2] 69))
     have lg2:(w1.alloc (.cells #[.int .i64 l.1,.int .i64 l.2.1,.int .i64 l.2.2.1,.int .i64 l.2.2.2] 69)).cell? ⟨w1.heap.size,2,none⟩=some (.int .i64 l.2.2.1):=new_cell rfl rfl
     have lg3:(w1.alloc (.cells #[.int .i64 l.1,.int .i64 l.2.1,.int .i64 l.2.2.1,.int .i64 l.2.2.2] 69)).cell? ⟨w1.heap.size,3,none⟩=some (.int .i64 l.2.2.2):=new_cell rfl rfl
     have ltL:w1.heap.size<(w1.alloc (.cells #[.int .i64 l.1,.int .i64 l.2.1,.int .i64 l.2.2.1,.int .i64 l.2.2.2] 69)).heap.size:=by simp
     clear hLg hb1 c0' c1' c2' hL hB4
     go_wp2_with fail
     generalize w1.alloc (.cells #[.int .i64 l.1,.int .i64 l.2.1,.int .i64 l.2.2.1,.int .i64 l.2.2.2] 69)=W0 at*
     obtain ⟨lb,lof,rfl,hlb,lv0,lv1⟩:=HLV.out W0 (hG.below N2.bel)
     have hne:Nonempty (HeldIn W0):=⟨⟨W0,Below.refl _ _⟩⟩
     have f0:∀s:HeldIn W0,s.w.cell? ⟨w.heap.size,1,none⟩=some (.slice (some ⟨lb,lof,none⟩) g.lives.length lc):=fun s=>(N2.below s.h).g1
     have f1:∀s:HeldIn W0,s.w.cell? ⟨w.heap.size+1,0,none⟩=some (.int .i64 V):=fun s=>(N2.below s.h).s0
     have f2:∀s:HeldIn W0,s.w.cell? ⟨w.heap.size+1,1,none⟩=some (.int .i64 t0):=fun s=>(N2.below s.h).s1
     have f3:∀s:HeldIn W0,s.w.cell? ⟨w.heap.size+1+1,1,none⟩=some (.int .i64 ht):=fun s=>(N2.below s.h).h1
     have f4:∀s:HeldIn W0,s.w.cell? ⟨w.heap.size+1+1+1+1,0,none⟩=some (.int .i64 V):=fun s=>(N2.below s.h).e0
     have f5:∀s:HeldIn W0,s.w.cell? ⟨lb,lof+V*2,none⟩=some (.int .i64 a1):=fun s=>(s.h.cell (p:=⟨lb,lof+V*2,none⟩) hlb).trans lv0
     have f6:∀s:HeldIn W0,s.w.cell? ⟨lb,lof+V*2+1,none⟩=some (.int .i64 b1):=fun s=>(s.h.cell (p:=⟨lb,lof+V*2+1,none⟩) hlb).trans lv1
     have HN2:=hideg N2
     have HLg:Hid (∀W,Below W0.heap.size W0 W -> W.cell? ⟨w1.heap.size,2,none⟩=some (.int .i64 l.2.2.1) /\ W.cell? ⟨w1.heap.size,3,none⟩=some (.int .i64 l.2.2.2) /\ w1.heap.size<W.heap.size):=fun W hb=>⟨(hb.cell (p:=⟨w1.heap.size,2,none⟩) ltL).trans lg2,(hb.cell (p:=⟨w1.heap.size,3,none⟩) ltL).trans lg3,Nat.lt_of_lt_of_le ltL hb.size⟩
     have HLB0:=hideg (HLB.out W0 (hG.below N2.bel))
     clear N2 HLV HLB HLv hG lg2 lg3 ltL lv0 lv1
     refine wp_region_held W0 (Below.refl _ _) (by kernel_rfl) (by kernel_rfl) ?_
     repeat (go_big_quiet_step ((go_at_call 115;exact held_of (hWt _))))
     refine wpQuiet_nil ?_
     rintro _ ⟨s,rfl⟩
     have N3:=HN2.out.below s.h
     obtain ⟨q2,q3,ltq⟩:=HLg.out _ s.h
     obtain ⟨lb2,lof2,elb,hlb2,lw0,lw1⟩:=HLB0.out
     simp only [Option.some.injEq,Addr.mk.injEq] at elb
     obtain ⟨rfl,rfl,_⟩:=elb
     have x0:=(s.h.cell (p:=⟨lb,lof+Bn*2,none⟩) hlb2).trans lw0
     have x1:=(s.h.cell (p:=⟨lb,lof+Bn*2+1,none⟩) hlb2).trans lw1
     have hlb3:=Nat.lt_of_lt_of_le hlb2 s.h.size
     clear f0 f1 f2 f3 f4 f5 f6 hne
     generalize s.w=w3 at N3 q2 q3 ltq x0 x1 hlb3 ⊢
     have g1:=N3.g1
     have s2:=N3.s2
     have h1:=N3.h1
     have e1:=N3.e1
     have lt:=N3.lt
     clear HN2 HLg HLB0 lw0 lw1 hlb2 hWt
     go_wp2_with fail
     have N4:=N3.below (gal w3 (.cells #[.int .i64 Bn,.int .i64 (ht+l.2.2.1),.int .i64 (c0+l.2.2.2)] 157))
     have t0' :(w3.alloc (.cells #[.int .i64 (Bn:Int),.int .i64 (ht+l.2.2.1),.int .i64 (c0+l.2.2.2)] 157)).cell? ⟨w3.heap.size,0,none⟩=some (.int .i64 Bn):=new_cell rfl rfl
     have t1' :(w3.alloc (.cells #[.int .i64 (Bn:Int),.int .i64 (ht+l.2.2.1),.int .i64 (c0+l.2.2.2)] 157)).cell? ⟨w3.heap.size,1,none⟩=some (.int .i64 (ht+l.2.2.1)):=new_cell rfl rfl
     have t2' :(w3.alloc (.cells #[.int .i64 (Bn:Int),.int .i64 (ht+l.2.2.1),.int .i64 (c0+l.2.2.2)] 157)).cell? ⟨w3.heap.size,2,none⟩=some (.int .i64 (c0+l.2.2.2)):=new_cell rfl rfl
     have y0:=((gal w3 (.cells #[.int .i64 Bn,.int .i64 (ht+l.2.2.1),.int .i64 (c0+l.2.2.2)] 157)).cell (p:=⟨lb,lof+Bn*2,none⟩) hlb3).trans x0
     have y1:=((gal w3 (.cells #[.int .i64 Bn,.int .i64 (ht+l.2.2.1),.int .i64 (c0+l.2.2.2)] 157)).cell (p:=⟨lb,lof+Bn*2+1,none⟩) hlb3).trans x1
     have hlb4:lb<(w3.alloc (.cells #[.int .i64 (Bn:Int),.int .i64 (ht+l.2.2.1),.int .i64 (c0+l.2.2.2)] 157)).heap.size:=by simp;omega
     have ltT:w3.heap.size<(w3.alloc (.cells #[.int .i64 (Bn:Int),.int .i64 (ht+l.2.2.1),.int .i64 (c0+l.2.2.2)] 157)).heap.size:=by simp
     generalize w3.alloc (.cells #[.int .i64 (Bn:Int),.int .i64 (ht+l.2.2.1),.int .i64 (c0+l.2.2.2)] 157)=W5 at*
     have hne5:Nonempty (HeldIn W5):=⟨⟨W5,Below.refl _ _⟩⟩
     have f0:∀s:HeldIn W5,s.w.cell? ⟨w.heap.size,1,none⟩=some (.slice (some ⟨lb,lof,none⟩) g.lives.length lc):=fun s=>(N4.below s.h).g1
     have f1:∀s:HeldIn W5,s.w.cell? ⟨w3.heap.size,0,none⟩=some (.int .i64 Bn):=fun s=>(s.h.cell (p:=⟨w3.heap.size,0,none⟩) ltT).trans t0'
     have f2:∀s:HeldIn W5,s.w.cell? ⟨w3.heap.size,1,none⟩=some (.int .i64 (ht+l.2.2.1)):=fun s=>(s.h.cell (p:=⟨w3.heap.size,1,none⟩) ltT).trans t1'
     have f3:∀s:HeldIn W5,s.w.cell? ⟨w3.heap.size,2,none⟩=some (.int .i64 (c0+l.2.2.2)):=fun s=>(s.h.cell (p:=⟨w3.heap.size,2,none⟩) ltT).trans t2'
     have f5:∀s:HeldIn W5,s.w.cell? ⟨lb,lof+Bn*2,none⟩=some (.int .i64 a2):=fun s=>(s.h.cell (p:=⟨lb,lof+Bn*2,none⟩) hlb4).trans y0
     have f6:∀s:HeldIn W5,s.w.cell? ⟨lb,lof+Bn*2+1,none⟩=some (.int .i64 b2):=fun s=>(s.h.cell (p:=⟨lb,lof+Bn*2+1,none⟩) hlb4).trans y1
     have HN4:=hideg N4
     clear N4 N3 t0' t1' t2' y0 y1 x0 x1 q2 q3 ltq g1 s2 h1 e1 lt
     refine wp_region_held_back2 W5 (Below.refl _ _) (by kernel_rfl) (by simp) (by kernel_rfl) (by kernel_rfl) (by kernel_rfl) (by kernel_rfl) (by kernel_rfl) ?_
     simp only [List.pop_toArray,List.dropLast,List.back!_toArray,List.getLast!]
     repeat (go_big_quiet_step ((go_at_call 64;exact held_of (hAl _))))
     refine wpQuiet_nil ?_
     rintro _ ⟨s,rfl⟩
     refine back_last (fun K hK=> ?_)
     have N6:=HN4.out.below s.h
     have z0:=f1 s
     have z1:=f2 s
     have z2:=f3 s
     clear f0 f1 f2 f3 f5 f6 hne5
     generalize s.w=w6 at*
     have hbF:=N6.bel
     have r0:=N6.r0
     have r1:=N6.r1
     have r2:=N6.r2
     have fz:=N6.fz
     have lt:=N6.lt
     clear N6 HN4
     go_simp
     refine hK.out _ _ ?_
     clear hK K
     refine back_last (fun K hK=> ?_)
     go_simp
     refine hK.out _ _ ?_
     clear hK K
     go_wp2
     refine bodyPost_ret (v:=nextV ((Bn:Int),ht+l.2.2.1,c0+l.2.2.2) bF) (by simp [results,Tryz.results84,go_sem,nextV,r0,r1,r2];done) rfl ⟨rfl,?_⟩
     exact set3 hbF (by omega) _ _ _
theorem Tryz.infoRide:(Seq.prog.info? 97).map (fun i=>(i.zero,i.size,i.bytes))=some (some (.agg #[.int .i64 0,.int .i64 0,.int .i64 0,.int .i64 0,.int .i64 0,.int .i64 0]),6,48):=by kernel_rfl
theorem stopHereR {p:Prop} (h:Hid p):p:=h
def encR (c:Ri):List Value:=[.int .i64 c.1,.int .i64 c.2.1,.int .i64 c.2.2.1,.int .i64 c.2.2.2.1,.int .i64 c.2.2.2.2.1,.int .i64 c.2.2.2.2.2]
def encRs (l:List Ri):List Value:=l.flatMap encR
theorem encRs_append (a b:List Ri):encRs (a++b)=encRs a++encRs b:=by simp [encRs]
theorem encRs_length (l:List Ri):(encRs l).length=l.length*6:=by
 induction l with
 | nil=>rfl
 | cons c l ih=>simp only [encRs,List.flatMap_cons,List.length_append,List.length_cons] at ih ⊢;rw [ih];simp [encR];omega
def ri0:Ri:=(0,0,0,0,0,0)
theorem encRs_get (l:List Ri) (j:Nat) (h:j<l.length):(encRs l)[j*6]? =some (.int .i64 (l.getD j ri0).1) /\ (encRs l)[j*6+1]? =some (.int .i64 (l.getD j ri0).2.1) /\ (encRs l)[j*6+2]? =some (.int .i64 (l.getD j ri0).2.2.1) /\ (encRs l)[j*6+3]? =some (.int .i64 (l.getD j ri0).2.2.2.1) /\ (encRs l)[j*6+4]? =some (.int .i64 (l.getD j ri0).2.2.2.2.1) /\ (encRs l)[j*6+5]? =some (.int .i64 (l.getD j ri0).2.2.2.2.2):=by
 induction l generalizing j with
 | nil=>simp at h
 | cons c l ih=>
   have e:encRs (c::l)= .int .i64 c.1:: .int .i64 c.2.1:: .int .i64 c.2.2.1:: .int .i64 c.2.2.2.1:: .int .i64 c.2.2.2.2.1:: .int .i64 c.2.2.2.2.2::encRs l:=by simp [encRs,encR]
   rw [e]
   cases j with
   | zero=>exact ⟨rfl,rfl,rfl,rfl,rfl,rfl⟩
   | succ j=>
     have:=ih j (by simpa using h)
     rw [show (j+1)*6=j*6+1+1+1+1+1+1 by omega]
     simpa using this
structure RdOne (w:World) (b o:Nat) (r:Ri):Prop where
 c0:w.cell? ⟨b,o,none⟩=some (.int .i64 r.1)
 c1:w.cell? ⟨b,o+1,none⟩=some (.int .i64 r.2.1)
 c2:w.cell? ⟨b,o+2,none⟩=some (.int .i64 r.2.2.1)
 c3:w.cell? ⟨b,o+3,none⟩=some (.int .i64 r.2.2.2.1)
 c4:w.cell? ⟨b,o+4,none⟩=some (.int .i64 r.2.2.2.2.1)
 c5:w.cell? ⟨b,o+5,none⟩=some (.int .i64 r.2.2.2.2.2)
theorem RdOne.below {w w' :World} {b o:Nat} {r:Ri} (h:RdOne w b o r) (hlt:b<w.heap.size) (hb:Below w.heap.size w w'):RdOne w' b o r:=
 ⟨(hb.cell (p:=⟨b,o,none⟩) hlt).trans h.c0,(hb.cell (p:=⟨b,o+1,none⟩) hlt).trans h.c1,(hb.cell (p:=⟨b,o+2,none⟩) hlt).trans h.c2,(hb.cell (p:=⟨b,o+3,none⟩) hlt).trans h.c3,(hb.cell (p:=⟨b,o+4,none⟩) hlt).trans h.c4,(hb.cell (p:=⟨b,o+5,none⟩) hlt).trans h.c5⟩
def RdAt (w:World) (ao:Option Addr) (l:List Ri):Prop:=
 l=[] \/ ∃b off,ao=some ⟨b,off,none⟩ /\ b<w.heap.size /\ ∀j,j<l.length -> RdOne w b (off+j*6) (l.getD j ri0)
theorem rdAt_of_owns {w:World} {base e:Nat} {v:Value} {n:Nat} {l:List Ri} (h:w.ownsRow base e 6 v n (encRs l)):∃ao cap,v= .slice ao l.length cap /\ RdAt w ao l:=by
 obtain ⟨h1,h2⟩:=h
 simp only [encRs_length] at h1
 have hn:n=l.length:=by omega
 subst hn
 rcases h2 with ⟨rfl,h0⟩ | ⟨g,cap,cur,rfl,hb,hh,h3,h4,h5,h6⟩
 · exact ⟨none,0,by rw [h0],.inl (List.eq_nil_of_length_eq_zero h0)⟩
 · have hown:w.ownsRow base e 6 (.slice (some ⟨g,0,none⟩) l.length cap) l.length (encRs l):=⟨by simp [encRs_length],.inr ⟨g,cap,cur,rfl,hb,hh,h3,h4,h5,h6⟩⟩
   refine ⟨_,cap,rfl,.inr ⟨g,0,rfl,(Array.getElem?_eq_some_iff.1 hh).1,fun j hj=> ?_⟩⟩
   obtain ⟨f0,f1,f2,f3,f4,f5⟩:=encRs_get l j hj
   refine ⟨?_,?_,?_,?_,?_,?_⟩
   · rw [Nat.zero_add,hown.cellAt (j*6) (by omega)];exact f0
   · rw [Nat.zero_add,hown.cellAt (j*6+1) (by omega)];exact f1
   · rw [Nat.zero_add,hown.cellAt (j*6+2) (by omega)];exact f2
   · rw [Nat.zero_add,hown.cellAt (j*6+3) (by omega)];exact f3
   · rw [Nat.zero_add,hown.cellAt (j*6+4) (by omega)];exact f4
   · rw [Nat.zero_add,hown.cellAt (j*6+5) (by omega)];exact f5
theorem cells_six_newR (w:World) (B:Nat) (t:TypeId) (x y z u v s:Value) (hB:B=w.heap.size):∀j q,[x,y,z,u,v,s][j]? =some q -> (w.alloc (.cells #[x,y,z,u,v,s] t)).cell? ((⟨B,0,none⟩:Addr).add j)=some q:=by
 subst hB
 intro j q hj
 match j,hj with
 | 0,hj=>simp at hj;subst hj;simp [Addr.add]
 | 1,hj=>simp at hj;subst hj;simp [Addr.add]
 | 2,hj=>simp at hj;subst hj;simp [Addr.add]
 | 3,hj=>simp at hj;subst hj;simp [Addr.add]
 | 4,hj=>simp at hj;subst hj;simp [Addr.add]
 | 5,hj=>simp at hj;subst hj;simp [Addr.add]
theorem nextF_own {g:Gr} (R:Right g) {j:Nat} (hj:j<g.edges.length) (d:Int):nextF g (g.edges[j].1,d,0) ((j:Int),d)=(lands g g.edges[j] d).map fun q=>(g.edges[j].2.1,q.1,q.2):=by
 rw [nextF_at (h:=((j:Int),d)) rfl hj]
 cases hl:lands g g.edges[j] d with
 | none=>split<;>simp
 | some q=>rw [if_pos ⟨(lands_lt R hj hl).2.1,rfl,by simp only;omega⟩];simp
theorem ridesAt_none {g:Gr} {d:Int} {j:Nat} (hj:j<g.edges.length) (h:lands g g.edges[j] d=none):ridesAt g d (j+1)=ridesAt g d j:=by rw [ridesAt,edge_getD hj,h];simp
theorem ridesAt_some {g:Gr} {d:Int} {j:Nat} (hj:j<g.edges.length) {q:Int×Int} (h:lands g g.edges[j] d=some q):ridesAt g d (j+1)=ridesAt g d j++[((j:Int),d,g.edges[j].1,g.edges[j].2.1,q.1,q.2)]:=by rw [ridesAt,edge_getD hj,h]
set_option maxRecDepth 100000 in
set_option maxHeartbeats 8000000 in
theorem Rides_any (g:Gr) (la ea:Option Addr) (lc ec:Nat) (w:World) (hG:GAt w la ea g) (hR:Right g):
   Calls Seq.prog 65 #[.agg #[.int .i64 g.hor,.slice la g.lives.length lc,.slice ea g.edges.length ec]] w fun r w' =>∃u,r= .returned u /\ w'.ownsRow w.heap.size 97 6 u (ridesF g).length (encRs (ridesF g)) /\ Below w.heap.size w w':=by
 obtain ⟨i0,hi,hz0,hz1,hz2⟩:=info_parts Tryz.infoRide
 obtain ⟨w1,hw1⟩:∃x,x=w.alloc (.cells #[.int .i64 g.hor,.slice la g.lives.length lc,.slice ea g.edges.length ec] 25):=⟨_,rfl⟩
 have B0:GBx w w1 w.heap.size g la ea lc ec:=by rw [hw1];exact gbx_start w g la ea lc ec 25
 have hhor:=hR.hor
 have hed:=hR.eds
 have HRt:=hideg hR
 have HG:=hideg hG
 have HB1:=hideg B0
 have g0:=B0.c0
 have g2:=B0.c2
 have hw1s:=hw1.symm
 have hH:Hid (ridesF g=ridesTo g g.hor.toNat):=rfl
 clear hR hG B0 hw1
 go_enter Seq.func65,Tryz.ntmps65
 go_wp2_with fail
 clear hw1s
 go_loopw [3,12] (fun u d wr=>∃k:Nat,(k:Int) <= g.hor /\ d= .int .i64 (k:Int) /\ wr.ownsRow w1.heap.size 97 6 u (ridesTo g k).length (encRs (ridesTo g k)) /\ Below w1.heap.size w1 wr) (fun _ d _=>(g.hor-intOf d).toNat)
 case atStart=>exact ⟨0,by omega,by simp,World.ownsRow_nil _ _ _ _,Below.refl _ _⟩
 case round=>
   clear g0 g2
   obtain ⟨k,hk,rfl,hown,hb⟩:=hrel
   have BR:=HB1.out.below hb
   have g0:=BR.c0
   have g2:=BR.c2
   have hol:=ridesTo_len g k
   have hk100:k <= 100:=by omega
   have hol' :(ridesTo g k).length <= 3000:=Nat.le_trans hol (Nat.le_trans (Nat.mul_le_mul hk100 hed) (by omega))
   by_cases hlt:(k:Int)<g.hor
   · obtain ⟨out,hout⟩:∃o,o=ridesTo g k:=⟨_,rfl⟩
     rw [<- hout] at hown hol'
     have HSucc:Hid (ridesTo g (k+1)=out++ridesAt g (k:Int) g.edges.length):=by show _=_;rw [hout];rfl
     clear hout hol
     obtain ⟨wo,hwo⟩:∃x,x=wr:=⟨_,rfl⟩
     have hown0:wo.ownsRow w1.heap.size 97 6 u3 out.length (encRs out):=by rw [hwo];exact hown
     have hbo:Below w1.heap.size w1 wo:=by rw [hwo];exact hb
     rw [<- hwo] at g0 g2 ⊢
     clear hown hb hwo BR
     have hw1' :IntKind.i64.wrap ((k:Int)+1)=(k:Int)+1:=wrap_nj _ (by omega) (by omega)
     go_wp2_with fail
     go_loopw [3,18] (fun u i wr=>∃j:Nat,j <= g.edges.length /\ i= .int .i64 j /\ wr.ownsRow w1.heap.size 97 6 u (out++ridesAt g (k:Int) j).length (encRs (out++ridesAt g (k:Int) j)) /\ Below w1.heap.size w1 wr) (fun _ i _=>g.edges.length-(intOf i).toNat)
     case atStart=>exact ⟨0,Nat.zero_le _,rfl,by simpa [ridesAt] using hown0,hbo⟩
     case round=>
       clear hown0 hbo g0 g2
       obtain ⟨j,hj,rfl,hown,hb⟩:=hrel
       have BR:=HB1.out.below hb
       have hoa:=ridesAt_len g (k:Int) j
       by_cases hjl:j<g.edges.length
       · obtain ⟨b,off,lo,lcap,rfl,hbr,e0,e1,e2,_⟩:∃b off lo lcap,ea=some ⟨b,off,none⟩ /\ b<wr.heap.size /\ wr.cell? ⟨b,off+j*3,none⟩=some (.int .i64 g.edges[j].1) /\ wr.cell? ⟨b,off+j*3+1,none⟩=some (.int .i64 g.edges[j].2.1) /\ wr.cell? ⟨b,off+j*3+2,none⟩=some (.slice lo g.edges[j].2.2.length lcap) /\ LgAt wr lo g.edges[j].2.2:=by
           rcases (HG.out.below BR.bel).ed with h0 | ⟨b,off,rfl,hbr,hc⟩
           · rw [h0] at hjl;simp at hjl
           obtain ⟨c0,c1,lo,lcap,c2,hL,_,_⟩:=hc j hjl
           exact ⟨b,off,lo,lcap,rfl,hbr,c0,c1,c2,hL⟩
         obtain ⟨hA,hBe,_⟩:=HRt.out.ends _ (List.getElem_mem hjl)
         obtain ⟨p,hp,hNx⟩:=next_any g la (some ⟨b,off,none⟩) lc ec (g.edges[j].1,(k:Int),0) ((j:Int),(k:Int)) HRt.out hA.1 hA.2 (by simp) (by simp)
         rw [nextF_own HRt.out hjl] at hp hNx
         simp only at hNx
         unfold nextV at hNx
         obtain ⟨wb,hwb⟩:∃x,x=(wr.alloc (.cells #[.int .i64 g.edges[j].1,.int .i64 g.edges[j].2.1,.slice lo g.edges[j].2.2.length lcap] 47)).alloc (.cells #[.int .i64 (j:Int),.int .i64 (k:Int)] 63):=⟨_,rfl⟩
         have hbw:Below wr.heap.size wr wb:=by rw [hwb];exact ptg (gal _ _) (gal _ _)
         have hBb:=BR.below hbw
         have hNw:=hNx wb (HG.out.below hBb.bel)
         have ga0:=hBb.c0
         have ga1:=hBb.c1
         have ga2:=hBb.c2
         have gb0:=BR.c2
         have f0:wb.cell? ⟨wr.heap.size,0,none⟩=some (.int .i64 g.edges[j].1):=by rw [hwb,(gal _ _).cell (by simp)];exact new_cell rfl rfl
         have f1:wb.cell? ⟨wr.heap.size+1,0,none⟩=some (.int .i64 (j:Int)):=by rw [hwb];exact new_cell (by simp) rfl
         have f2:wb.cell? ⟨wr.heap.size+1,1,none⟩=some (.int .i64 (k:Int)):=by rw [hwb];exact new_cell (by simp) rfl
         have hwbs:wr.heap.size+1<wb.heap.size:=by rw [hwb];simp
         have hll:(out++ridesAt g (k:Int) j).length <= 4000:=by rw [List.length_append];omega
         have HOW:Hid (∀W,Below wb.heap.size wb W -> W.ownsRow w1.heap.size 97 6 u3 (out++ridesAt g (k:Int) j).length (encRs (out++ridesAt g (k:Int) j)) /\ Below w1.heap.size w1 W):=fun W h=>⟨ownsRow_below hown (ptg hbw h),hb.trans ((ptg hbw h).mono hb.size)⟩
         have HN:=hideg (ridesAt_none (g:=g) (d:=(k:Int)) hjl)
         have HY:=hideg (fun q=>ridesAt_some (g:=g) (d:=(k:Int)) hjl (q:=q))
         clear hown hb hNx hBb
         generalize hcur:out++ridesAt g (k:Int) j=cur at*
         have HCur:=hideg hcur
         have hwbs':=hwb.symm
         clear hcur BR hwb
         cases hs:lands g g.edges[j] (k:Int) with
         | none=>
           rw [hs] at hNw
           simp only [Option.map_none,Option.isSome_none] at hNw
           have HE:=hideg (HN.out hs)
           clear hs hp HN HY hA hBe
           generalize g.edges[j]=ed at*
           go_wp2_with fail
           refine hNw.mono ?_
           rintro r w3 ⟨rfl,hb3⟩
           have HO2:=hideg (fun o=>HOW.out (w3.alloc o) (ptg hb3 (gal w3 o)))
           clear hNw hb3 e0 e1 e2 ga0 ga1 ga2 gb0 HOW f0 f1 f2 hbw
           go_wp2
           go_roundw
           case rel=>exact ⟨j+1,by omega,by go_num,by rw [HE.out,HCur.out];exact (HO2.out _).1,(HO2.out _).2⟩
           case measure=>simp [intOf];omega
         | some q=>
           rw [hs] at hNw hp
           simp only [Option.map_some,Option.isSome_some] at hNw
           have hp:=hp _ rfl
           subst hp
           simp only at hNw
           have HE:=hideg (HY.out q hs)
           clear hs HN HY hA hBe
           generalize g.edges[j]=ed at*
           go_wp2_with fail
           refine hNw.mono ?_
           rintro r w3 ⟨rfl,hb3⟩
           obtain ⟨w4,hw4⟩:∃x,x=w3.alloc (.cells #[.int .i64 ed.2.1,.int .i64 q.1,.int .i64 q.2] 157):=⟨_,rfl⟩
           have hb4:Below wb.heap.size wb w4:=by rw [hw4];exact ptg hb3 (gal w3 _)
           obtain ⟨o1,o2⟩:=HOW.out w4 hb4
           have x0:=(hb4.cell (p:=⟨wr.heap.size,0,none⟩) (by simp only;omega)).trans f0
           have x1:=(hb4.cell (p:=⟨wr.heap.size+1,0,none⟩) (by simp only;omega)).trans f1
           have x2:=(hb4.cell (p:=⟨wr.heap.size+1,1,none⟩) (by simp only;omega)).trans f2
           have x3:w4.cell? ⟨w3.heap.size,0,none⟩=some (.int .i64 ed.2.1):=by rw [hw4];exact new_cell rfl rfl
           have x4:w4.cell? ⟨w3.heap.size,1,none⟩=some (.int .i64 q.1):=by rw [hw4];exact new_cell rfl rfl
           have x5:w4.cell? ⟨w3.heap.size,2,none⟩=some (.int .i64 q.2):=by rw [hw4];exact new_cell rfl rfl
           have hs4:=hb4.size
           have hs5:=o2.size
           have hs6:w3.heap.size<w4.heap.size:=by rw [hw4];simp
           have HBg:Hid (∀(o:Obj) (w5:World),(w4.alloc o).grownBy w5 u3.ownBlock -> Below w1.heap.size w1 w5):=fun o w5 hgr=>(o2.alloc o2.size o).grown hgr (by have:=o2.size;simp at this ⊢;omega) (fun k hk=>(o1.lt k hk).1)
           have hw4s:=hw4.symm
           clear hNw hb3 e0 e1 e2 ga0 ga1 ga2 gb0 HOW f0 f1 f2 hbw hb4 hw4 hwbs'
           go_wp2_with (at_builtin;refine stopHereR ?_)
           refine hideg ?_
           refine wpList_append_own _ rfl _ _ 83 rfl w1.heap.size 97 i0 _ 6 48 ((Seq.pu 83).trans Tryz.underlying83) hi hz0 hz1 hz2 rfl (by decide) _ _ _ rfl (World.ownsRow.alloc (w:=w4) o1 _) ⟨w4.heap.size,0,none⟩ 1 1 [.int .i64 j,.int .i64 k,.int .i64 ed.1,.int .i64 ed.2.1,.int .i64 q.1,.int .i64 q.2] rfl rfl (cells_six_newR _ _ _ _ _ _ _ _ _ (by simp)) (by intro u hu;simp at hu;rcases hu with rfl | rfl | rfl | rfl | rfl | rfl<;>rfl) (by unfold maxLen;omega) (by omega) (by simp;omega) ?_
           intro v' w5 hown5 hgrow _
           have hb':=HBg.out _ _ hgrow
           have R:w5.ownsRow w1.heap.size 97 6 v' (out++ridesAt g (k:Int) (j+1)).length (encRs (out++ridesAt g (k:Int) (j+1))):=by
             rw [HE.out,<- List.append_assoc,HCur.out,encRs_append,List.length_append];exact hown5
           clear hgrow o1 hown5 x0 x1 x2 x3 x4 x5 hw4s
           go_wp2
           go_roundw
           case rel=>exact ⟨j+1,by omega,by go_num,R,hb'⟩
           case measure=>simp [intOf];omega
       · have hjn:j=g.edges.length:=by omega
         subst hjn
         rw [<- HSucc.out] at hown
         clear BR
         go_wp2
         go_roundw
         case rel=>exact ⟨k+1,by omega,by go_num,hown,hb⟩
         case measure=>simp [intOf];omega
   · have hke:k=g.hor.toNat:=by omega
     rw [hke,<- hH.out] at hown
     have R:=owns_base2 hown HB1.out.bel.size
     have hbF:=BR.bel
     clear hown hke BR
     go_wp2
     go_ret
     exact ⟨_,rfl,R,hbF⟩
def rideV (r:Ri):Value:= .agg #[.int .i64 r.1,.int .i64 r.2.1,.int .i64 r.2.2.1,.int .i64 r.2.2.2.1,.int .i64 r.2.2.2.2.1,.int .i64 r.2.2.2.2.2]
theorem costOf_any (r:Ri) (w:World):Calls Seq.prog 39 #[rideV r] w fun res w' =>res= .returned (.int .i64 r.2.2.2.2.2) /\ Below w.heap.size w w':=by
 obtain ⟨E,d,a,e,ar,c⟩:=r
 simp only [rideV]
 go_enter Seq.func39,Tryz.ntmps39
 go_wp2
 go_ret
 exact ⟨rfl,gal w _⟩
theorem encV_mk (p E d a e ar c:Int):encV (p,E,d,a,e,ar,c)= .agg #[.int .i64 p,.int .i64 E,.int .i64 d,.int .i64 a,.int .i64 e,.int .i64 ar,.int .i64 c]:=rfl
set_option maxRecDepth 100000 in
set_option maxHeartbeats 1000000 in
theorem take_any (b n:Nat) (M:Mp) (r:Ri) (p:Int) (w:World) (hM:MapAt w b n M) (hn:n<100000) (hr:Wi r.2.1 /\ Wi r.2.2.1 /\ Wi r.2.2.2.1 /\ Wi r.2.2.2.2.1) (hp:0 <= p /\ p <= 1000) (hx:∀x,M r.2.2.1 r.2.1=some x -> -1000000 <= x.1 /\ x.1 <= 1000000):
   Calls Seq.prog 117 #[.map (some b),rideV r,.int .i64 p] w fun res w' =>(∃v,res= .returned v) /\ MapAt w' b (n+1) (takeM M r p) /\ w.grownBy w' (some b):=by
 obtain ⟨E,d,a,e,ar,c⟩:=r
 simp only [rideV]
 simp only at hr hx
 obtain ⟨hd,ha,he,har⟩:=hr
 obtain ⟨w1,hw1⟩:∃x,x=w.alloc (.cells #[.int .i64 E,.int .i64 d,.int .i64 a,.int .i64 e,.int .i64 ar,.int .i64 c] 97):=⟨_,rfl⟩
 have b1:Below w.heap.size w w1:=by rw [hw1];exact gal w _
 have M1:=hM.below b1
 have k1:=M1.look ha hd
 have y1:w1.cell? ⟨w.heap.size,1,none⟩=some (.int .i64 d):=by rw [hw1];exact new_cell rfl rfl
 have y2:w1.cell? ⟨w.heap.size,2,none⟩=some (.int .i64 a):=by rw [hw1];exact new_cell rfl rfl
 have hw1s:=hw1.symm
 cases h1:M a d with
 | none=>
   have HT:Hid (takeM M (E,d,a,e,ar,c) p=M):=by show _=_;unfold takeM;simp only;rw [h1]
   rw [h1] at k1
   simp only [keyV,Option.getD_none,encV_mk,Option.isSome_none] at k1
   clear h1 hw1
   go_enter Seq.func117,Tryz.ntmps117
   go_wp2
   refine bodyPost_ret (results_none rfl _ _ _) rfl ⟨⟨_,rfl⟩,?_,?_⟩
   · rw [HT.out];exact (M1.alloc _).mono (by omega)
   · exact gby_of_below (ptg b1 (gal w1 _)) _
 | some x=>
   obtain ⟨q,E2,d2,a2,e2,ar2,c2⟩:=x
   have hq:=hx _ h1
   simp only at hq
   rw [h1] at k1
   simp only [keyV,Option.getD_some,encV_mk,Option.isSome_some] at k1
   have hw2:IntKind.i64.wrap (q+p)=q+p:=wrap_nj _ (by omega) (by omega)
   obtain ⟨w3,hw3⟩:∃x,x=(w1.alloc (.cells #[.int .i64 q,.int .i64 E2,.int .i64 d2,.int .i64 a2,.int .i64 e2,.int .i64 ar2,.int .i64 c2] 119)).alloc (.cells #[.int .i64 e,.int .i64 ar] 122):=⟨_,rfl⟩
   have b3:Below w1.heap.size w1 w3:=by rw [hw3];exact ptg (gal _ _) (gal _ _)
   have s3:w3.heap.size=w1.heap.size+1+1:=by rw [hw3];simp
   have s1:w1.heap.size=w.heap.size+1:=by rw [hw1];simp
   have M3:=M1.below b3
   have k2:=M3.look he har
   have z0:w3.cell? ⟨w1.heap.size,0,none⟩=some (.int .i64 q):=by rw [hw3,(gal _ _).cell (by simp)];exact new_cell rfl rfl
   have z1:w3.cell? ⟨w1.heap.size+1,0,none⟩=some (.int .i64 e):=by rw [hw3];exact new_cell (by simp) rfl
   have z2:w3.cell? ⟨w1.heap.size+1,1,none⟩=some (.int .i64 ar):=by rw [hw3];exact new_cell (by simp) rfl
   have y3:w1.cell? ⟨w.heap.size,3,none⟩=some (.int .i64 e):=by rw [hw1];exact new_cell rfl rfl
   have y4:w1.cell? ⟨w.heap.size,4,none⟩=some (.int .i64 ar):=by rw [hw1];exact new_cell rfl rfl
   have y3' :(w1.alloc (.cells #[.int .i64 q,.int .i64 E2,.int .i64 d2,.int .i64 a2,.int .i64 e2,.int .i64 ar2,.int .i64 c2] 119)).cell? ⟨w.heap.size,3,none⟩=some (.int .i64 e):=((gal w1 _).cell (p:=⟨w.heap.size,3,none⟩) (by simp only;omega)).trans y3
   have y4' :(w1.alloc (.cells #[.int .i64 q,.int .i64 E2,.int .i64 d2,.int .i64 a2,.int .i64 e2,.int .i64 ar2,.int .i64 c2] 119)).cell? ⟨w.heap.size,4,none⟩=some (.int .i64 ar):=((gal w1 _).cell (p:=⟨w.heap.size,4,none⟩) (by simp only;omega)).trans y4
   have hw3s:=hw3.symm
   have no:∀W,Below w3.heap.size w3 W -> takeM M (E,d,a,e,ar,c) p=M -> MapAt W b (n+1) (takeM M (E,d,a,e,ar,c) p) /\ w.grownBy W (some b):=fun W h h' =>by
     rw [h'];exact ⟨(M3.below h).mono (by omega),gby_of_below (ptg b1 (ptg b3 h)) _⟩
   have yes:∀W,Below w3.heap.size w3 W -> takeM M (E,d,a,e,ar,c) p=mset M e ar (q+p,E,d,a,e,ar,c) -> ∃w',(Instr.mapUpdate 116 (.map (some b)) (.agg #[.int .i64 e,.int .i64 ar]) (.agg #[.int .i64 (q+p),.int .i64 E,.int .i64 d,.int .i64 a,.int .i64 e,.int .i64 ar,.int .i64 c])).run Seq.prog W= .ok () w' /\ Hid (MapAt w' b (n+1) (takeM M (E,d,a,e,ar,c) p) /\ w.grownBy w' (some b)):=fun W h h' =>by
     obtain ⟨w',r1,r2,r3⟩:=(M3.below h).store (by unfold maxLen;omega) he har (q+p,E,d,a,e,ar,c)
     exact ⟨w',r1,by rw [h'];exact r2,gby_trans (gby_of_below (ptg b1 (ptg b3 h)) _) r3⟩
   have HNo:=hideg no
   have HYes:=hideg yes
   have cY:∀W,Below w3.heap.size w3 W -> ∀j x,w1.cell? ⟨w.heap.size,j,none⟩=some x -> W.cell? ⟨w.heap.size,j,none⟩=some x:=fun W h j x hx=>((ptg b3 h).cell (p:=⟨w.heap.size,j,none⟩) (by simp only;omega)).trans hx
   have HC:=hideg cY
   have y0:w1.cell? ⟨w.heap.size,0,none⟩=some (.int .i64 E):=by rw [hw1];exact new_cell rfl rfl
   have y5:w1.cell? ⟨w.heap.size,5,none⟩=some (.int .i64 c):=by rw [hw1];exact new_cell rfl rfl
   have HTk:Hid (takeM M (E,d,a,e,ar,c) p=if lessB (M e ar) (q+p)=true then mset M e ar (q+p,E,d,a,e,ar,c) else M):=by show _=_;unfold takeM;simp only;rw [h1]
   have HSz:Hid (w3.heap.size=w1.heap.size+1+1):=s3
   clear no yes hM M1 M3 hx h1 cY hw1 hw3 s1 s3
   cases h2:M e ar with
   | none=>
     rw [h2] at k2
     simp only [keyV,Option.getD_none,encV_mk,Option.isSome_none] at k2
     have HT:Hid (takeM M (E,d,a,e,ar,c) p=mset M e ar (q+p,E,d,a,e,ar,c)):=by show _=_;rw [HTk.out,h2];rfl
     obtain ⟨w',hup,HF⟩:=HYes.out (w3.alloc (.cells #[.int .i64 0,.int .i64 0,.int .i64 0,.int .i64 0,.int .i64 0,.int .i64 0,.int .i64 0] 119)) (gal w3 _) HT.out
     clear HTk h2
     have z0':=((gal w3 (.cells #[.int .i64 0,.int .i64 0,.int .i64 0,.int .i64 0,.int .i64 0,.int .i64 0,.int .i64 0] 119)).cell (p:=⟨w1.heap.size,0,none⟩) (by simp only;have:=HSz.out;omega)).trans z0
     have z1':=((gal w3 (.cells #[.int .i64 0,.int .i64 0,.int .i64 0,.int .i64 0,.int .i64 0,.int .i64 0,.int .i64 0] 119)).cell (p:=⟨w1.heap.size+1,0,none⟩) (by simp only;have:=HSz.out;omega)).trans z1
     have z2':=((gal w3 (.cells #[.int .i64 0,.int .i64 0,.int .i64 0,.int .i64 0,.int .i64 0,.int .i64 0,.int .i64 0] 119)).cell (p:=⟨w1.heap.size+1,1,none⟩) (by simp only;have:=HSz.out;omega)).trans z2
     have c0:=HC.out _ (gal w3 (.cells #[.int .i64 0,.int .i64 0,.int .i64 0,.int .i64 0,.int .i64 0,.int .i64 0,.int .i64 0] 119)) 0 _ y0
     have c1:=HC.out _ (gal w3 (.cells #[.int .i64 0,.int .i64 0,.int .i64 0,.int .i64 0,.int .i64 0,.int .i64 0,.int .i64 0] 119)) 1 _ y1
     have c2':=HC.out _ (gal w3 (.cells #[.int .i64 0,.int .i64 0,.int .i64 0,.int .i64 0,.int .i64 0,.int .i64 0,.int .i64 0] 119)) 2 _ y2
     have c3:=HC.out _ (gal w3 (.cells #[.int .i64 0,.int .i64 0,.int .i64 0,.int .i64 0,.int .i64 0,.int .i64 0,.int .i64 0] 119)) 3 _ y3
     have c4:=HC.out _ (gal w3 (.cells #[.int .i64 0,.int .i64 0,.int .i64 0,.int .i64 0,.int .i64 0,.int .i64 0,.int .i64 0] 119)) 4 _ y4
     have c5:=HC.out _ (gal w3 (.cells #[.int .i64 0,.int .i64 0,.int .i64 0,.int .i64 0,.int .i64 0,.int .i64 0,.int .i64 0] 119)) 5 _ y5
     go_enter Seq.func117,Tryz.ntmps117
     go_wp2
     refine bodyPost_end (results_none rfl _ _ _) rfl ⟨⟨_,rfl⟩,HF.out.1,HF.out.2⟩
   | some y=>
     obtain ⟨q2,E3,d3,a3,e3,ar3,c3⟩:=y
     rw [h2] at k2
     simp only [keyV,Option.getD_some,encV_mk,Option.isSome_some] at k2
     by_cases hl:q+p<q2
     · have HT:Hid (takeM M (E,d,a,e,ar,c) p=mset M e ar (q+p,E,d,a,e,ar,c)):=by
         show _=_;rw [HTk.out,h2,if_pos (by simp [lessB,hl])]
       obtain ⟨w',hup,HF⟩:=HYes.out (w3.alloc (.cells #[.int .i64 q2,.int .i64 E3,.int .i64 d3,.int .i64 a3,.int .i64 e3,.int .i64 ar3,.int .i64 c3] 119)) (gal w3 _) HT.out
       clear HTk h2
       have z0':=((gal w3 (.cells #[.int .i64 q2,.int .i64 E3,.int .i64 d3,.int .i64 a3,.int .i64 e3,.int .i64 ar3,.int .i64 c3] 119)).cell (p:=⟨w1.heap.size,0,none⟩) (by simp only;have:=HSz.out;omega)).trans z0
       have z1':=((gal w3 (.cells #[.int .i64 q2,.int .i64 E3,.int .i64 d3,.int .i64 a3,.int .i64 e3,.int .i64 ar3,.int .i64 c3] 119)).cell (p:=⟨w1.heap.size+1,0,none⟩) (by simp only;have:=HSz.out;omega)).trans z1
       have z2':=((gal w3 (.cells #[.int .i64 q2,.int .i64 E3,.int .i64 d3,.int .i64 a3,.int .i64 e3,.int .i64 ar3,.int .i64 c3] 119)).cell (p:=⟨w1.heap.size+1,1,none⟩) (by simp only;have:=HSz.out;omega)).trans z2
       have c0:=HC.out _ (gal w3 (.cells #[.int .i64 q2,.int .i64 E3,.int .i64 d3,.int .i64 a3,.int .i64 e3,.int .i64 ar3,.int .i64 c3] 119)) 0 _ y0
       have c1:=HC.out _ (gal w3 (.cells #[.int .i64 q2,.int .i64 E3,.int .i64 d3,.int .i64 a3,.int .i64 e3,.int .i64 ar3,.int .i64 c3] 119)) 1 _ y1
       have c2':=HC.out _ (gal w3 (.cells #[.int .i64 q2,.int .i64 E3,.int .i64 d3,.int .i64 a3,.int .i64 e3,.int .i64 ar3,.int .i64 c3] 119)) 2 _ y2
       have c3':=HC.out _ (gal w3 (.cells #[.int .i64 q2,.int .i64 E3,.int .i64 d3,.int .i64 a3,.int .i64 e3,.int .i64 ar3,.int .i64 c3] 119)) 3 _ y3
       have c4:=HC.out _ (gal w3 (.cells #[.int .i64 q2,.int .i64 E3,.int .i64 d3,.int .i64 a3,.int .i64 e3,.int .i64 ar3,.int .i64 c3] 119)) 4 _ y4
       have c5:=HC.out _ (gal w3 (.cells #[.int .i64 q2,.int .i64 E3,.int .i64 d3,.int .i64 a3,.int .i64 e3,.int .i64 ar3,.int .i64 c3] 119)) 5 _ y5
       go_enter Seq.func117,Tryz.ntmps117
       go_wp2
       refine bodyPost_end (results_none rfl _ _ _) rfl ⟨⟨_,rfl⟩,HF.out.1,HF.out.2⟩
     · have HT:Hid (takeM M (E,d,a,e,ar,c) p=M):=by
         show _=_;rw [HTk.out,h2,if_neg (by simp [lessB];omega)]
       have z0':=((gal w3 (.cells #[.int .i64 q2,.int .i64 E3,.int .i64 d3,.int .i64 a3,.int .i64 e3,.int .i64 ar3,.int .i64 c3] 119)).cell (p:=⟨w1.heap.size,0,none⟩) (by simp only;have:=HSz.out;omega)).trans z0
       clear HTk h2 HYes
       go_enter Seq.func117,Tryz.ntmps117
       go_wp2
       refine bodyPost_end (results_none rfl _ _ _) rfl ⟨⟨_,rfl⟩,(HNo.out _ (gal w3 _) HT.out).1,(HNo.out _ (gal w3 _) HT.out).2⟩
theorem MapAt.cell {w w' :World} {b n:Nat} {M:Mp} (h:MapAt w b n M) (hg:w.grownBy w' (some b)) {a:Addr} {x:Value} (hx:w.cell? a=some x):w'.cell? a=some x:=by
 refine hg.cell hx (fun e=> ?_)
 obtain ⟨D,⟨es,clock,hb,_⟩,_⟩:=h
 have e:a.block=b:=by simpa using e
 unfold World.cell? at hx
 rw [e,hb] at hx
 cases hx
theorem gat_keep {w w' :World} {la ea:Option Addr} {g:Gr} (h:GAt w la ea g) (hs:w.heap.size <= w'.heap.size) (hc:∀a x,w.cell? a=some x -> w'.cell? a=some x):GAt w' la ea g:=by
 refine ⟨?_,?_,h.nl,h.ne⟩
 · rcases h.lv with h | ⟨b,off,rfl,hlt,hk⟩
   · exact .inl h
   · exact .inr ⟨b,off,rfl,Nat.lt_of_lt_of_le hlt hs,fun j hj=>⟨hc _ _ (hk j hj).1,hc _ _ (hk j hj).2⟩⟩
 · rcases h.ed with h | ⟨b,off,rfl,hlt,hk⟩
   · exact .inl h
   · refine .inr ⟨b,off,rfl,Nat.lt_of_lt_of_le hlt hs,fun j hj=> ?_⟩
     obtain ⟨c0,c1,lo,lc,c2,hl,n1,n2⟩:=hk j hj
     refine ⟨hc _ _ c0,hc _ _ c1,lo,lc,hc _ _ c2,?_,n1,n2⟩
     rcases hl with hl | ⟨b',off',rfl,hlt',hk'⟩
     · exact .inl hl
     · exact .inr ⟨b',off',rfl,Nat.lt_of_lt_of_le hlt' hs,fun i hi=>⟨hc _ _ (hk' i hi).1,hc _ _ (hk' i hi).2.1,hc _ _ (hk' i hi).2.2.1,hc _ _ (hk' i hi).2.2.2⟩⟩
theorem MapAt.gat {w w' :World} {b n:Nat} {M:Mp} (h:MapAt w b n M) (hg:w.grownBy w' (some b)) {la ea:Option Addr} {g:Gr} (hG:GAt w la ea g):GAt w' la ea g:=gat_keep hG hg.size (fun _ _ hx=>h.cell hg hx)
theorem wi_small {n:Int} (h0: -1000000 <= n) (h1:n <= 1000000):Wi n:=by unfold Wi;omega
theorem waitV_none {g:Gr} {now:Int} {M:Mp} {v:Int} (h:M v (now- 1)=none):waitV g now M v=M:=by unfold waitV;rw [h]
theorem waitV_dead {g:Gr} {now:Int} {M:Mp} {v:Int} (h:aliveB now g.lives v=false):waitV g now M v=M:=by
 unfold waitV
 cases M v (now- 1) with
 | none=>rfl
 | some x=>simp [h]
theorem waitV_some {g:Gr} {now:Int} {M:Mp} {v:Int} {x:Vs} (h:M v (now- 1)=some x) (ha:aliveB now g.lives v=true):waitV g now M v=if leqB (M v now) x.1=true then mset M v now x else M:=by
 unfold waitV;rw [h];simp only;rw [if_pos ha]
set_option maxRecDepth 100000 in
set_option maxHeartbeats 1000000 in
theorem waitTill_any (g:Gr) (la ea:Option Addr) (lc ec:Nat) (b n:Nat) (M:Mp) (now:Int) (w:World) (hG:GAt w la ea g) (hR:Right g) (hM:MapAt w b n M) (hn:n<50000) (h0:0 <= now /\ now<1000):
   Calls Seq.prog 116 #[.map (some b),.agg #[.int .i64 g.hor,.slice la g.lives.length lc,.slice ea g.edges.length ec],.int .i64 now] w fun res w' =>(∃v,res= .returned v) /\ MapAt w' b (n+g.lives.length) (waitM g now M g.lives.length) /\ w.grownBy w' (some b):=by
 obtain ⟨w1,hw1⟩:∃x,x=w.alloc (.cells #[.int .i64 g.hor,.slice la g.lives.length lc,.slice ea g.edges.length ec] 25):=⟨_,rfl⟩
 have B0:GBx w w1 w.heap.size g la ea lc ec:=by rw [hw1];exact gbx_start w g la ea lc ec 25
 have M1:=hM.below B0.bel
 have hG1:=hG.below B0.bel
 have hlv:=hR.lvs
 have g1:=B0.c1
 have hw1s:=hw1.symm
 have HB0:=hideg B0.bel
 have HM1:=hideg M1
 have HG1:=hideg hG1
 have hnow1:IntKind.i64.wrap (now- 1)=now- 1:=wrap_nj _ (by omega) (by omega)
 clear hM hG hR hw1 B0 M1 hG1
 go_enter Seq.func116,Tryz.ntmps116
 go_wp2_with fail
 clear hw1s
 go_loopw [15] (fun i wr=>∃k:Nat,k <= g.lives.length /\ i= .int .i64 k /\ MapAt wr b (n+k) (waitM g now M k) /\ w1.grownBy wr (some b)) (fun i _=>g.lives.length-(intOf i).toNat)
 case atStart=>exact ⟨0,Nat.zero_le _,rfl,HM1.out,gby_refl _ _⟩
 case round=>
   clear g1
   obtain ⟨k,hk,rfl,hMk,hg⟩:=hrel
   by_cases hkl:k<g.lives.length
   · have hki:(k:Int)<(g.lives.length:Int):=by omega
     have hkw:IntKind.i64.wrap ((k:Int)+1)=(k:Int)+1:=wrap_nj _ (by omega) (by omega)
     obtain ⟨lb,lof,rfl,hlb,l0,l1⟩:∃b off,la=some ⟨b,off,none⟩ /\ b<wr.heap.size /\ (wr.cell? ⟨b,off+k*2,none⟩=some (.int .i64 g.lives[k].1) /\ wr.cell? ⟨b,off+k*2+1,none⟩=some (.int .i64 g.lives[k].2)):=by
       rcases (HM1.out.gat hg HG1.out).lv with h0 | ⟨b,off,rfl,hbr,hc⟩
       · rw [h0] at hkl;simp at hkl
       exact ⟨b,off,rfl,hbr,IvAt.get hkl hc⟩
     have hal:=fun W=>jalive_any g.lives[k].1 g.lives[k].2 now W
     rw [<- aliveB_at now g.lives k hkl] at hal
     obtain ⟨wa,hwa⟩:∃x,x=wr.alloc (.cells #[.int .i64 g.lives[k].1,.int .i64 g.lives[k].2] 95):=⟨_,rfl⟩
     have ba:Below wr.heap.size wr wa:=by rw [hwa];exact gal wr _
     have y0:wa.cell? ⟨wr.heap.size,0,none⟩=some (.int .i64 g.lives[k].1):=by rw [hwa];exact new_cell rfl rfl
     have y1:wa.cell? ⟨wr.heap.size,1,none⟩=some (.int .i64 g.lives[k].2):=by rw [hwa];exact new_cell rfl rfl
     have sa:wr.heap.size<wa.heap.size:=by rw [hwa];simp
     have Ma:=hMk.below ba
     have k1:=Ma.look (v:=(k:Int)) (t:=now- 1) (wi_small (by omega) (by omega)) (wi_small (by omega) (by omega))
     have HSu:Hid (waitM g now M (k+1)=waitV g now (waitM g now M k) (k:Int)):=rfl
     generalize waitM g now M k=Mk at*
     have HGa:Hid (∀W,Below wa.heap.size wa W -> w1.grownBy W (some b)):=fun W h=>gby_trans hg (gby_of_below (ptg ba h) _)
     have HMa:Hid (∀W,Below wa.heap.size wa W -> MapAt W b (n+k) Mk):=fun W h=>Ma.below h
     have hwas:=hwa.symm
     clear hwa hMk hg ba Ma
     have NO:Hid (waitM g now M (k+1)=Mk -> ∀W,Below wa.heap.size wa W -> MapAt W b (n+(k+1)) (waitM g now M (k+1)) /\ w1.grownBy W (some b)):=fun h W hW=>by rw [h];exact ⟨(HMa.out W hW).mono (by omega),HGa.out W hW⟩
     cases h1:Mk (k:Int) (now- 1) with
     | none=>
       have HE:=hideg (NO.out (HSu.out.trans (waitV_none h1)))
       rw [h1] at k1
       simp only [keyV,Option.getD_none,encV_mk,Option.isSome_none] at k1
       clear h1 hal HSu NO
       generalize g.lives[k]=lf at*
       go_wp2
       go_roundw
       case rel=>exact ⟨k+1,by omega,by go_num,(HE.out _ (gal wa _)).1,(HE.out _ (gal wa _)).2⟩
       case measure=>simp [intOf];omega
     | some x=>
       obtain ⟨q,E2,d2,a2,e2,ar2,c2⟩:=x
       rw [h1] at k1
       simp only [keyV,Option.getD_some,encV_mk,Option.isSome_some] at k1
       obtain ⟨wb,hwb⟩:∃x,x=wa.alloc (.cells #[.int .i64 q,.int .i64 E2,.int .i64 d2,.int .i64 a2,.int .i64 e2,.int .i64 ar2,.int .i64 c2] 119):=⟨_,rfl⟩
       have bb:Below wa.heap.size wa wb:=by rw [hwb];exact gal wa _
       have z0:∀j x,#[Value.int .i64 q,.int .i64 E2,.int .i64 d2,.int .i64 a2,.int .i64 e2,.int .i64 ar2,.int .i64 c2][j]? =some x -> wb.cell? ⟨wa.heap.size,j,none⟩=some x:=fun j x hx=>by rw [hwb];exact new_cell rfl hx
       have y0b:=(bb.cell (p:=⟨wr.heap.size,0,none⟩) sa).trans y0
       have y1b:=(bb.cell (p:=⟨wr.heap.size,1,none⟩) sa).trans y1
       have sb:wa.heap.size<wb.heap.size:=by rw [hwb];simp
       have hwbs:=hwb.symm
       clear hwb
       cases ha:aliveB now g.lives (k:Int) with
       | false=>
         rw [ha] at hal
         have HE:=hideg (fun W h=>NO.out (HSu.out.trans (waitV_dead ha)) W (ptg bb h))
         clear h1 HSu NO ha z0
         generalize g.lives[k]=lf at*
         go_wp2_with fail
         refine (hal _).mono ?_
         rintro r w5 ⟨rfl,hb5⟩
         have HE5:=hideg (HE.out _ hb5)
         clear hal hb5 HE
         go_wp2
         go_roundw
         case rel=>exact ⟨k+1,by omega,by go_num,HE5.out.1,HE5.out.2⟩
         case measure=>simp [intOf];omega
       | true=>
         rw [ha] at hal
         have HV:Hid (waitM g now M (k+1)=if leqB (Mk (k:Int) now) q=true then mset Mk (k:Int) now (q,E2,d2,a2,e2,ar2,c2) else Mk):=HSu.out.trans (waitV_some h1 ha)
         have HZ:=hideg z0
         clear h1 HSu ha z0
         generalize g.lives[k]=lf at*
         go_wp2_with fail
         refine (hal _).mono ?_
         rintro r w5 ⟨rfl,hb5⟩
         have M5:=HMa.out w5 (ptg bb hb5)
         have k2:=M5.look (v:=(k:Int)) (t:=now) (wi_small (by omega) (by omega)) (wi_small (by omega) (by omega))
         have YES:Hid (waitM g now M (k+1)=mset Mk (k:Int) now (q,E2,d2,a2,e2,ar2,c2) -> ∀W,Below w5.heap.size w5 W -> ∃w',(Instr.mapUpdate 116 (.map (some b)) (.agg #[.int .i64 (k:Int),.int .i64 now]) (.agg #[.int .i64 q,.int .i64 E2,.int .i64 d2,.int .i64 a2,.int .i64 e2,.int .i64 ar2,.int .i64 c2])).run Seq.prog W= .ok () w' /\ Hid (MapAt w' b (n+(k+1)) (waitM g now M (k+1)) /\ w1.grownBy w' (some b))):=fun h W hW=>by
           obtain ⟨w',r1,r2,r3⟩:=(M5.below hW).store (by unfold maxLen;omega) (v:=(k:Int)) (t:=now) (wi_small (by omega) (by omega)) (wi_small (by omega) (by omega)) (q,E2,d2,a2,e2,ar2,c2)
           exact ⟨w',r1,by rw [h];exact r2,gby_trans (HGa.out W (ptg bb (ptg hb5 hW))) r3⟩
         have HC:Hid (∀W,Below w5.heap.size w5 W -> ∀j x,#[Value.int .i64 q,.int .i64 E2,.int .i64 d2,.int .i64 a2,.int .i64 e2,.int .i64 ar2,.int .i64 c2][j]? =some x -> W.cell? ⟨wa.heap.size,j,none⟩=some x):=fun W hW j x hx=>((ptg hb5 hW).cell (p:=⟨wa.heap.size,j,none⟩) sb).trans (HZ.out j x hx)
         have HNO5:Hid (waitM g now M (k+1)=Mk -> ∀W,Below w5.heap.size w5 W -> MapAt W b (n+(k+1)) (waitM g now M (k+1)) /\ w1.grownBy W (some b)):=fun h W hW=>NO.out h W (ptg bb (ptg hb5 hW))
         clear hal M5 NO HMa HGa hwas hwbs k1 y0 y1 y0b y1b bb hb5 HZ l0 l1
         cases h2:Mk (k:Int) now with
         | none=>
           rw [h2] at k2
           simp only [keyV,Option.getD_none,encV_mk,Option.isSome_none] at k2
           have HT:=hideg (YES.out (by rw [HV.out,h2];rfl))
           clear h2 HV YES
           obtain ⟨o,ho⟩:∃o:Obj,o= .cells #[.int .i64 0,.int .i64 0,.int .i64 0,.int .i64 0,.int .i64 0,.int .i64 0,.int .i64 0] 119:=⟨_,rfl⟩
           obtain ⟨w',hup,HF⟩:=HT.out _ (gal w5 o)
           have c0:=HC.out _ (gal w5 o) 0 _ rfl
           have c1:=HC.out _ (gal w5 o) 1 _ rfl
           have c2':=HC.out _ (gal w5 o) 2 _ rfl
           have c3:=HC.out _ (gal w5 o) 3 _ rfl
           have c4:=HC.out _ (gal w5 o) 4 _ rfl
           have c5:=HC.out _ (gal w5 o) 5 _ rfl
           have c6:=HC.out _ (gal w5 o) 6 _ rfl
           subst ho
           clear HT HC
           go_wp2
           go_roundw
           case rel=>exact ⟨k+1,by omega,by go_num,HF.out.1,HF.out.2⟩
           case measure=>simp [intOf];omega
         | some y=>
           obtain ⟨q2,E3,d3,a3,e3,ar3,c3⟩:=y
           rw [h2] at k2
           simp only [keyV,Option.getD_some,encV_mk,Option.isSome_some] at k2
           obtain ⟨w6,hw6⟩:∃x,x=w5.alloc (.cells #[.int .i64 q2,.int .i64 E3,.int .i64 d3,.int .i64 a3,.int .i64 e3,.int .i64 ar3,.int .i64 c3] 119):=⟨_,rfl⟩
           have b6:Below w5.heap.size w5 w6:=by rw [hw6];exact gal w5 _
           have v0:w6.cell? ⟨w5.heap.size,0,none⟩=some (.int .i64 q2):=by rw [hw6];exact new_cell rfl rfl
           have c0:=HC.out w6 b6 0 _ rfl
           have c1:=HC.out w6 b6 1 _ rfl
           have c2':=HC.out w6 b6 2 _ rfl
           have c3':=HC.out w6 b6 3 _ rfl
           have c4:=HC.out w6 b6 4 _ rfl
           have c5:=HC.out w6 b6 5 _ rfl
           have c6:=HC.out w6 b6 6 _ rfl
           have hw6s:=hw6.symm
           clear hw6 HC
           by_cases hl:q <= q2
           · have HT:=hideg (YES.out (by rw [HV.out,h2,if_pos (by simp [leqB,hl])]))
             obtain ⟨w',hup,HF⟩:=HT.out w6 b6
             clear h2 HV YES HT HNO5
             go_wp2
             go_roundw
             case rel=>exact ⟨k+1,by omega,by go_num,HF.out.1,HF.out.2⟩
             case measure=>simp [intOf];omega
           · have HT:=hideg (HNO5.out (by rw [HV.out,h2,if_neg (by simp [leqB];omega)]) w6 b6)
             clear h2 HV YES HNO5
             go_wp2
             go_roundw
             case rel=>exact ⟨k+1,by omega,by go_num,HT.out.1,HT.out.2⟩
             case measure=>simp [intOf];omega
   · have hke:k=g.lives.length:=by omega
     subst hke
     have HF:=hideg hMk
     have HG:=hideg (gby_trans (gby_of_below HB0.out (some b)) hg)
     clear hMk hg
     go_wp2_with fail
     refine bodyPost_end (results_none rfl _ _ _) rfl ⟨⟨_,rfl⟩,HF.out,HG.out⟩
theorem RdOne.gby {w w' :World} {b n:Nat} {M:Mp} (hM:MapAt w b n M) (hg:w.grownBy w' (some b)) {rb o:Nat} {r:Ri} (h:RdOne w rb o r):RdOne w' rb o r:=
 ⟨hM.cell hg h.c0,hM.cell hg h.c1,hM.cell hg h.c2,hM.cell hg h.c3,hM.cell hg h.c4,hM.cell hg h.c5⟩
theorem GBx.gby {w W W' :World} {B b n:Nat} {M:Mp} {g:Gr} {la ea:Option Addr} {lc ec:Nat} (hM:MapAt W b n M) (hg:W.grownBy W' (some b)) (h:GBx w W B g la ea lc ec):W'.cell? ⟨B,0,none⟩=some (.int .i64 g.hor) /\ W'.cell? ⟨B,1,none⟩=some (.slice la g.lives.length lc) /\ W'.cell? ⟨B,2,none⟩=some (.slice ea g.edges.length ec):=⟨hM.cell hg h.c0,hM.cell hg h.c1,hM.cell hg h.c2⟩
def RSl (rb cap:Nat) (l:List Ri) (u:Value) (i m:Nat):Prop:=i+m=l.length /\ ∃c ao,u= .slice ao m c /\ i+c=cap /\ (0<m -> ao=some ⟨rb,i*6,none⟩)
theorem rides_lie {w:World} {base:Nat} {v:Value} {l:List Ri} (h:w.ownsRow base 97 6 v l.length (encRs l)):∃rb cap,RSl rb cap l v 0 l.length /\ l.length <= cap /\ cap <= maxLen /\ (l≠[] -> rb<w.heap.size) /\ ∀j,j<l.length -> RdOne w rb (j*6) (l.getD j ri0):=by
 have h':=h
 rcases h.2 with ⟨rfl,h0⟩ | ⟨g,cap,cur,rfl,hb,hh,h3,h4,h5,h6⟩
 · have:l=[]:=List.eq_nil_of_length_eq_zero h0
   subst this
   exact ⟨0,0,⟨rfl,0,none,rfl,rfl,fun h=>by simp at h⟩,Nat.le_refl _,Nat.zero_le _,fun h=>absurd rfl h,fun j hj=>by simp at hj⟩
 · refine ⟨g,cap,⟨by omega,cap,_,rfl,by omega,fun _=>by simp⟩,h3,h4,fun _=>(Array.getElem?_eq_some_iff.1 hh).1,fun j hj=> ?_⟩
   obtain ⟨f0,f1,f2,f3,f4,f5⟩:=encRs_get l j hj
   refine ⟨?_,?_,?_,?_,?_,?_⟩
   · rw [h'.cellAt (j*6) (by omega)];exact f0
   · rw [h'.cellAt (j*6+1) (by omega)];exact f1
   · rw [h'.cellAt (j*6+2) (by omega)];exact f2
   · rw [h'.cellAt (j*6+3) (by omega)];exact f3
   · rw [h'.cellAt (j*6+4) (by omega)];exact f4
   · rw [h'.cellAt (j*6+5) (by omega)];exact f5
set_option maxRecDepth 100000 in
set_option maxHeartbeats 1000000 in
theorem spreadC_any (g:Gr) (la ea:Option Addr) (lc ec:Nat) (F:Int -> Int -> Option Int) (pr:Ri -> Int) (s0:Int) (fv:FuncId) (eg:∀args w,(callFunc fv args).run Seq.prog w= .ok (.enter fv args) w) (b n:Nat) (M0:Mp) (w:World) (hG:GAt w la ea g) (hR:Right g) (hF:FOk g F s0) (hM:MapAt w b n M0) (hn:n <= 200) (hs0:0 <= s0 /\ s0<g.hor)
   (hM0:∀v t,(M0 v t).map (·.1)=F v t) (hpr:PrOk g pr) (hPb:∀v t p,Pd g F pr v t p -> -1000000 <= p /\ p <= 1000000)
   (hfv:∀r W,Calls Seq.prog fv #[rideV r] W fun res w' =>res= .returned (.int .i64 (pr r)) /\ Below W.heap.size W w'):
   Calls Seq.prog 85 #[.map (some b),.agg #[.int .i64 g.hor,.slice la g.lives.length lc,.slice ea g.edges.length ec],.int .i64 s0,.func (.func fv) #[] #[]] w fun res w' =>(∃v,res= .returned v) /\ (∃n' M,MapAt w' b n' M /\ SpE g F pr M) /\ w.grownBy w' (some b):=by
 obtain ⟨w1,hw1⟩:∃x,x=w.alloc (.cells #[.int .i64 g.hor,.slice la g.lives.length lc,.slice ea g.edges.length ec] 25):=⟨_,rfl⟩
 have B0:GBx w w1 w.heap.size g la ea lc ec:=by rw [hw1];exact gbx_start w g la ea lc ec 25
 have hhor:=hR.hor
 have hlv:=hR.lvs
 have g0:=B0.c0
 have g1:=B0.c1
 have g2:=B0.c2
 have hw1s:=hw1.symm
 have hRd:=Rides_any g la ea lc ec w1 (hG.below B0.bel) hR
 have hll:(ridesF g).length <= 3000:=Nat.le_trans (ridesTo_len g _) (Nat.le_trans (Nat.mul_le_mul (show g.hor.toNat <= 100 by omega) hR.eds) (by omega))
 have HRt:=hideg hR
 have HF:=hideg hF
 have HPr:=hideg hpr
 have HPb:=hideg hPb
 have HFv:=hideg hfv
 have HG0:=hideg hG
 have HM0:=hideg hM
 have HI0:Hid (SpI g F pr s0 s0 (s0- 1) 0 0 M0):=SpI.start hF hM0
 have HB0:=hideg B0
 clear hR hF hpr hPb hfv hG hM hM0 hw1 B0
 go_enter Seq.func85,Tryz.ntmps85
 go_wp2_with fail
 refine hRd.mono ?_
 rintro r w2 ⟨u,rfl,hu2,hb2⟩
 have HB2:=hideg (HB0.out.below hb2)
 obtain ⟨rb,cap,hRS,hcap,hcapM,hrb,hRo⟩:=rides_lie hu2
 have HRo:=hideg hRo
 have HG2:=hideg (HG0.out.below HB2.out.bel)
 have HM2:=hideg (HM0.out.below HB2.out.bel)
 have HOk:Hid (∀r∈ridesF g,RideOk g r):=fun r hr=>mem_rides HRt.out hr
 have HTk:=hideg (fun now (k i:Nat) M (h:SpI g F pr s0 now now k i M) (hi:i<(ridesF g).length) hd=>h.take HRt.out HF.out hi hd)
 have HNx:=hideg (fun now (i:Nat) M (h:SpI g F pr s0 now now g.lives.length i M) hd=>h.next HRt.out HF.out hd)
 have HMem:Hid (∀(i:Nat) (hi:i<(ridesF g).length),(ridesF g)[i]∈ridesF g):=fun i hi=>List.getElem_mem hi
 generalize hrl:ridesF g=rides at hRS hcap hRo HRo HOk HTk HNx HMem hll hrb
 clear hRd hb2 hu2 hRo g0 g1 g2 HB0 HM0 HG0 hw1s
 have HRl:=hideg hrl
 clear hrl
 go_wp2_with fail
 go_loopw [8,9] (fun u x wr=>∃(i m nn:Nat) (now:Int) (M:Mp),RSl rb cap rides u i m /\ x= .int .i64 now /\ s0 <= now /\ now <= g.hor /\ nn <= n+12*(now-s0).toNat+i /\ MapAt wr b nn M /\ SpI g F pr s0 now (now- 1) 0 i M /\ w2.grownBy wr (some b)) (fun _ x _=>(g.hor-intOf x).toNat)
 case atStart=>exact ⟨0,rides.length,n,s0,M0,hRS,rfl,by omega,by omega,by omega,HM2.out,HI0.out,gby_refl _ _⟩
 case round=>
   clear hRS
   obtain ⟨i,m,nn,now,M,hRS,rfl,hnow0,hnow1,hnn,hMk,hI,hg⟩:=hrel
   obtain ⟨him,c,ao,rfl,hic,hao⟩:=hRS
   obtain ⟨g0,g1,g2⟩:=GBx.gby HM2.out hg HB2.out
   by_cases hlt:now<g.hor
   · have hww:IntKind.i64.wrap (now+1)=now+1:=wrap_nj _ (by omega) (by omega)
     have hWt:=waitTill_any g la ea lc ec b nn M now wr (HM2.out.gat hg HG2.out) HRt.out hMk (by omega) (by omega)
     have HI:=hideg (hI.waits g.lives.length).turn
     have HGr:=hideg hg
     clear hI hMk hg
     generalize waitM g now M g.lives.length=M1 at HI hWt
     clear M
     go_wp2_with fail
     refine hWt.mono ?_
     rintro r w3 ⟨⟨vv,rfl⟩,hM3,hg3⟩
     have HG3:=hideg (gby_trans HGr.out hg3)
     have HM3:=hideg (hM3.mono (show nn+g.lives.length <= n+12*(now+1-s0).toNat+i by omega))
     clear hWt hM3 hg3 g0 g1 g2 HGr
     go_wp2_with fail
     go_loopw [8] (fun u wq=>∃(i m:Nat) (M:Mp),RSl rb cap rides u i m /\ MapAt wq b (n+12*(now+1-s0).toNat+i) M /\ SpI g F pr s0 now now g.lives.length i M /\ w2.grownBy wq (some b)) (fun u _=>match u with | .slice _ m _=>m | _=>0)
     case atStart=>exact ⟨i,m,M1,⟨him,c,ao,rfl,hic,hao⟩,HM3.out,HI.out,HG3.out⟩
     case round=>
       clear hao hic him HM3 HI HG3 hnn
       obtain ⟨i,m,M,⟨him,c,ao,rfl,hic,hao⟩,hMq,hI,hg⟩:=hrel
       by_cases hm:0<m
       · have hi:i<rides.length:=by omega
         have e:=hao hm
         subst e
         have hgd:rides.getD i ri0=rides[i]:=by rw [List.getD_eq_getElem?_getD,List.getElem?_eq_getElem hi];rfl
         have hRo:=RdOne.gby HM2.out hg (HRo.out i hi)
         rw [hgd] at hRo
         have hok:=HOk.out _ (HMem.out i hi)
         have hprr:=HPr.out _ (by rw [HRl.out];exact HMem.out i hi)
         have hTk:=HTk.out now g.lives.length i M hI hi
         have HNx1:=hideg (fun (h:now<rides[i].2.1)=>HNx.out now i M hI (fun _=>h))
         have hmi:((m:Int)>0):=by omega
         clear hgd hao
         generalize rides[i]=rr at*
         obtain ⟨E,d,a,e,ar,cc⟩:=rr
         have ha0:=hok.a0
         have hb0:=hok.b0
         have hd0:=hok.d0
         have hd1:=hok.lt
         have hd2:=hok.hor
         simp only at ha0 hb0 hd0 hd1 hd2 hTk hRo
         have c0:=hRo.c0
         have c1:=hRo.c1
         have c2:=hRo.c2
         have c3:=hRo.c3
         have c4:=hRo.c4
         have c5:=hRo.c5
         simp only at c0 c1 c2 c3 c4 c5
         clear hok hRo
         by_cases hdn:d <= now
         · have ddn:decide (d <= now)=true:=by simpa using hdn
           have hT:=hTk hdn
           have hcl:=fun W=>HFv.out (E,d,a,e,ar,cc) W
           simp only [rideV] at hcl
           have hxb:∀x,M a d=some x -> -1000000 <= x.1 /\ x.1 <= 1000000:=fun x hx=>HPb.out _ _ _ (hI.snd _ _ _ hx)
           have hCt:∀W,Below wr.heap.size wr W -> True:=fun _ _=>trivial
           generalize pr (E,d,a,e,ar,cc)=pp at*
           have HTa:=hideg (fun W (h:Below wr.heap.size wr W)=>take_any b _ M (E,d,a,e,ar,cc) pp W (hMq.below h) (by omega) ⟨wi_small (by simp only;omega) (by simp only;omega),wi_small (by simp only;omega) (by simp only;omega),wi_small (by simp only;omega) (by simp only;omega),wi_small (by simp only;omega) (by simp only;omega)⟩ hprr hxb)
           have HGr:Hid (∀W W',Below wr.heap.size wr W -> W.grownBy W' (some b) -> w2.grownBy W' (some b)):=fun W W' h h' =>gby_trans (gby_trans hg (gby_of_below h _)) h'
           have HT:=hideg hT
           have hne:Nonempty (HeldIn wr):=⟨⟨_,Below.refl _ _⟩⟩
           have lrb:rb<wr.heap.size:=Nat.lt_of_lt_of_le (hrb (fun h=>by rw [h] at hi;simp at hi)) hg.size
           have f0:=fun s:HeldIn wr=>(s.h.cell (p:=⟨rb,i*6,none⟩) lrb).trans c0
           have f1:=fun s:HeldIn wr=>(s.h.cell (p:=⟨rb,i*6+1,none⟩) lrb).trans c1
           have f2:=fun s:HeldIn wr=>(s.h.cell (p:=⟨rb,i*6+2,none⟩) lrb).trans c2
           have f3:=fun s:HeldIn wr=>(s.h.cell (p:=⟨rb,i*6+3,none⟩) lrb).trans c3
           have f4:=fun s:HeldIn wr=>(s.h.cell (p:=⟨rb,i*6+4,none⟩) lrb).trans c4
           have f5:=fun s:HeldIn wr=>(s.h.cell (p:=⟨rb,i*6+5,none⟩) lrb).trans c5
           clear hTk hT hI hMq hg hxb HNx1 hprr
           go_wp2_with fail
           refine wp_region_held_back _ (Below.refl _ _) (by kernel_rfl) (by simp) (by kernel_rfl) (by kernel_rfl) (by kernel_rfl) ?_
           simp only [List.pop_toArray,List.dropLast,List.back!_toArray,List.getLast!]
           repeat (go_big_quiet_step ((go_at_fn fv;exact held_of (hcl _))))
           refine wpQuiet_nil ?_
           rintro _ ⟨s,rfl⟩
           refine back_last (fun K hK=> ?_)
           go_simp
           refine (HTa.out s.w s.h).mono ?_
           rintro r w5 ⟨⟨v5,rfl⟩,hM5,hg5⟩
           refine hK.out _ _ ?_
           have HM5:=hideg hM5
           have HG5:=hideg (HGr.out _ _ s.h hg5)
           clear hM5 hg5 hK K f0 f1 f2 f3 f4 f5 hne c0 c1 c2 c3 c4 c5 HTa HGr hcl hCt
           clear s
           by_cases hc1:c=1
           · have hm1:m=1:=by omega
             subst hc1
             subst hm1
             go_wp2
             go_roundw
             case rel=>exact ⟨i+1,0,_,⟨by omega,0,_,rfl,by omega,fun h=>absurd h (Nat.lt_irrefl _)⟩,HM5.out.mono (by omega),HT.out,HG5.out⟩
             case measure=>simp
           · have hcm:m <= c:=by omega
             have hc1' :¬(c:Int)=1:=by omega
             go_wp2
             go_roundw
             case rel=>exact ⟨i+1,m- 1,_,⟨by omega,c- 1,_,rfl,by omega,fun _=>by simp⟩,HM5.out.mono (by omega),HT.out,HG5.out⟩
             case measure=>simp;omega
         · have ddn:decide (d <= now)=false:=by simpa using hdn
           have HN:=hideg (HNx1.out (by simp only;omega))
           have HM5:=hideg hMq
           have HG5:=hideg hg
           clear hTk hI hMq hg HNx1 hprr HTk
           go_wp2
           go_roundw
           case rel=>exact ⟨i,m,_,now+1,M,⟨him,c,_,rfl,hic,fun _=>rfl⟩,rfl,by omega,by omega,Nat.le_refl _,HM5.out,HN.out,HG5.out⟩
           case measure=>simp [intOf];omega
       · have hm0:m=0:=by omega
         subst hm0
         have HN:=hideg (HNx.out now i M hI (fun hi=>by omega))
         have HM5:=hideg hMq
         have HG5:=hideg hg
         clear hI hMq hg HTk hao
         go_wp2
         go_roundw
         case rel=>exact ⟨i,0,_,now+1,M,⟨him,c,_,rfl,hic,fun h=>absurd h (Nat.lt_irrefl _)⟩,rfl,by omega,by omega,Nat.le_refl _,HM5.out,HN.out,HG5.out⟩
         case measure=>simp [intOf];omega
   · have e:now=g.hor:=by omega
     subst e
     have HE:=hideg (hI.fin HRt.out HF.out)
     have HM5:=hideg hMk
     have HG5:=hideg (gby_trans (gby_of_below HB2.out.bel (some b)) hg)
     clear hI hMk hg
     go_wp2_with fail
     refine bodyPost_end (results_none rfl _ _ _) rfl ⟨⟨_,rfl⟩,⟨nn,M,HM5.out,HE.out⟩,HG5.out⟩
end Go.Proofs.YtfphigmeppdocaaGreat.Q
namespace Go.Proofs.YtfphigmeppdocaaGreat
open Lo (Seq.prog)
open Go.Shelf
def Tryz.lays212_ren : Go.Shelf.Ren := ⟨fun | 212 => 83 | 263 => 113 | 264 => 114 | n => n, fun | 46 => 153 | 51 => 139 | 146 => 184 | 53 => 136 | 148 => 186 | n => n, fun | n => n⟩
theorem Tryz.lays212 : Go.Proofs.Lays.n212 Seq.prog Tryz.lays212_ren := {
  mixed := by kernel_rfl
  f212 := Seq.func83.trans (congrArg some (by kernel_rfl))
  f263 := Seq.func113.trans (congrArg some (by kernel_rfl))
  f264 := Seq.func114.trans (congrArg some (by kernel_rfl))
  t46 := ((Seq.pu 153).trans Tryz.underlying153)
  a46 := (fun w => (Seq.ag 153 w).trans (Tryz.isAgg153 w))
  z46 := (fun w => (Seq.so 153 w).trans (Tryz.sizeOf153 w))
  v46 := (fun w => (Seq.zv 153 w).trans (Tryz.zeroValue153 w))
  t51 := ((Seq.pu 139).trans Tryz.underlying139)
  a51 := (fun w => (Seq.ag 139 w).trans (Tryz.isAgg139 w))
  z51 := (fun w => (Seq.so 139 w).trans (Tryz.sizeOf139 w))
  v51 := (fun w => (Seq.zv 139 w).trans (Tryz.zeroValue139 w))
  t53 := ((Seq.pu 136).trans Tryz.underlying136)
  a53 := (fun w => (Seq.ag 136 w).trans (Tryz.isAgg136 w))
  z53 := (fun w => (Seq.so 136 w).trans (Tryz.sizeOf136 w))
  v53 := (fun w => (Seq.zv 136 w).trans (Tryz.zeroValue136 w))
  t146 := ((Seq.pu 184).trans Tryz.underlying184)
  a146 := (fun w => (Seq.ag 184 w).trans (Tryz.isAgg184 w))
  z146 := (fun w => (Seq.so 184 w).trans (Tryz.sizeOf184 w))
  v146 := (fun w => (Seq.zv 184 w).trans (Tryz.zeroValue184 w))
  t148 := ((Seq.pu 186).trans Tryz.underlying186)
  a148 := (fun w => (Seq.ag 186 w).trans (Tryz.isAgg186 w))
  z148 := (fun w => (Seq.so 186 w).trans (Tryz.sizeOf186 w))
  v148 := (fun w => (Seq.zv 186 w).trans (Tryz.zeroValue186 w)) }
open Go.RowKit Go.Lib in
/-- math/bits.Mul: "Mul returns the full-width product of x and y": on a machine of 64 bits: Mul64's. (LAID: no walk: one application.) -/
theorem Seq.bits_Mul (x y : Nat) (hx : x < 18446744073709551616) (hy : y < 18446744073709551616) (w : World) :
    Calls Seq.prog 83 #[.int .u64 x, .int .u64 y] w fun e w' => e = .returned (.tuple #[.int .u64 ((x * y / 18446744073709551616 : Nat) : Int), .int .u64 ((x * y % 18446744073709551616 : Nat) : Int)]) ∧ w' = w := Any.bits_Mul Tryz.lays212 x y hx hy w
def Seq.sortInt_ren : Go.Shelf.Ren := ⟨fun | 189 => 88 | 125 => 119 | 257 => 118 | 128 => 138 | 129 => 139 | 294 => 129 | 295 => 130 | 296 => 131 | 297 => 132 | 298 => 133 | 299 => 134 | 216 => 135 | 300 => 136 | 301 => 137 | 328 => 142 | 329 => 143 | 330 => 144 | 331 => 145 | 332 => 146 | 215 => 147 | 343 => 150 | n => n, fun | 28 => 37 | 3 => 3 | 46 => 153 | 0 => 0 | 51 => 139 | 53 => 136 | 4 => 4 | 183 => 205 | 182 => 204 | 131 => 42 | 5 => 5 | 9 => 9 | 218 => 215 | 222 => 218 | 228 => 221 | 229 => 222 | n => n, fun | n => n⟩
theorem Seq.sortInt : Go.Proofs.Lays.n189 Seq.prog Seq.sortInt_ren := {
  mixed := by kernel_rfl
  f125 := Seq.func119.trans (congrArg some (by kernel_rfl))
  f128 := Seq.func138.trans (congrArg some (by kernel_rfl))
  f129 := Seq.func139.trans (congrArg some (by kernel_rfl))
  f189 := Seq.func88.trans (congrArg some (by kernel_rfl))
  f215 := Seq.func147.trans (congrArg some (by kernel_rfl))
  f216 := Seq.func135.trans (congrArg some (by kernel_rfl))
  f257 := Seq.func118.trans (congrArg some (by kernel_rfl))
  f294 := Seq.func129.trans (congrArg some (by kernel_rfl))
  f295 := Seq.func130.trans (congrArg some (by kernel_rfl))
  f296 := Seq.func131.trans (congrArg some (by kernel_rfl))
  f297 := Seq.func132.trans (congrArg some (by kernel_rfl))
  f298 := Seq.func133.trans (congrArg some (by kernel_rfl))
  f299 := Seq.func134.trans (congrArg some (by kernel_rfl))
  f300 := Seq.func136.trans (congrArg some (by kernel_rfl))
  f301 := Seq.func137.trans (congrArg some (by kernel_rfl))
  f328 := Seq.func142.trans (congrArg some (by kernel_rfl))
  f329 := Seq.func143.trans (congrArg some (by kernel_rfl))
  f330 := Seq.func144.trans (congrArg some (by kernel_rfl))
  f331 := Seq.func145.trans (congrArg some (by kernel_rfl))
  f332 := Seq.func146.trans (congrArg some (by kernel_rfl))
  f343 := Seq.func150.trans (congrArg some (by kernel_rfl))
  t0 := ((Seq.pu 0).trans Tryz.underlying0)
  a0 := (fun w => (Seq.ag 0 w).trans (Tryz.isAgg0 w))
  z0 := (fun w => (Seq.so 0 w).trans (Tryz.sizeOf0 w))
  v0 := (fun w => (Seq.zv 0 w).trans (Tryz.zeroValue0 w))
  t3 := ((Seq.pu 3).trans Tryz.underlying3)
  a3 := (fun w => (Seq.ag 3 w).trans (Tryz.isAgg3 w))
  z3 := (fun w => (Seq.so 3 w).trans (Tryz.sizeOf3 w))
  v3 := (fun w => (Seq.zv 3 w).trans (Tryz.zeroValue3 w))
  t4 := ((Seq.pu 4).trans Tryz.underlying4)
  a4 := (fun w => (Seq.ag 4 w).trans (Tryz.isAgg4 w))
  z4 := (fun w => (Seq.so 4 w).trans (Tryz.sizeOf4 w))
  v4 := (fun w => (Seq.zv 4 w).trans (Tryz.zeroValue4 w))
  t5 := ((Seq.pu 5).trans Tryz.underlying5)
  a5 := (fun w => (Seq.ag 5 w).trans (Tryz.isAgg5 w))
  z5 := (fun w => (Seq.so 5 w).trans (Tryz.sizeOf5 w))
  v5 := (fun w => (Seq.zv 5 w).trans (Tryz.zeroValue5 w))
  t9 := ((Seq.pu 9).trans Tryz.underlying9)
  a9 := (fun w => (Seq.ag 9 w).trans (Tryz.isAgg9 w))
  z9 := (fun w => (Seq.so 9 w).trans (Tryz.sizeOf9 w))
  v9 := (fun w => (Seq.zv 9 w).trans (Tryz.zeroValue9 w))
  t28 := ((Seq.pu 37).trans Tryz.underlying37)
  a28 := (fun w => (Seq.ag 37 w).trans (Tryz.isAgg37 w))
  z28 := (fun w => (Seq.so 37 w).trans (Tryz.sizeOf37 w))
  v28 := (fun w => (Seq.zv 37 w).trans (Tryz.zeroValue37 w))
  t46 := ((Seq.pu 153).trans Tryz.underlying153)
  a46 := (fun w => (Seq.ag 153 w).trans (Tryz.isAgg153 w))
  z46 := (fun w => (Seq.so 153 w).trans (Tryz.sizeOf153 w))
  v46 := (fun w => (Seq.zv 153 w).trans (Tryz.zeroValue153 w))
  t51 := ((Seq.pu 139).trans Tryz.underlying139)
  a51 := (fun w => (Seq.ag 139 w).trans (Tryz.isAgg139 w))
  z51 := (fun w => (Seq.so 139 w).trans (Tryz.sizeOf139 w))
  v51 := (fun w => (Seq.zv 139 w).trans (Tryz.zeroValue139 w))
  t53 := ((Seq.pu 136).trans Tryz.underlying136)
  a53 := (fun w => (Seq.ag 136 w).trans (Tryz.isAgg136 w))
  z53 := (fun w => (Seq.so 136 w).trans (Tryz.sizeOf136 w))
  v53 := (fun w => (Seq.zv 136 w).trans (Tryz.zeroValue136 w))
  t131 := ((Seq.pu 42).trans Tryz.underlying42)
  a131 := (fun w => (Seq.ag 42 w).trans (Tryz.isAgg42 w))
  z131 := (fun w => (Seq.so 42 w).trans (Tryz.sizeOf42 w))
  v131 := (fun w => (Seq.zv 42 w).trans (Tryz.zeroValue42 w))
  t182 := ((Seq.pu 204).trans Tryz.underlying204)
  a182 := (fun w => (Seq.ag 204 w).trans (Tryz.isAgg204 w))
  z182 := (fun w => (Seq.so 204 w).trans (Tryz.sizeOf204 w))
  v182 := (fun w => (Seq.zv 204 w).trans (Tryz.zeroValue204 w))
  t183 := ((Seq.pu 205).trans Tryz.underlying205)
  a183 := (fun w => (Seq.ag 205 w).trans (Tryz.isAgg205 w))
  z183 := (fun w => (Seq.so 205 w).trans (Tryz.sizeOf205 w))
  v183 := (fun w => (Seq.zv 205 w).trans (Tryz.zeroValue205 w))
  t218 := ((Seq.pu 215).trans Tryz.underlying215)
  a218 := (fun w => (Seq.ag 215 w).trans (Tryz.isAgg215 w))
  z218 := (fun w => (Seq.so 215 w).trans (Tryz.sizeOf215 w))
  v218 := (fun w => (Seq.zv 215 w).trans (Tryz.zeroValue215 w))
  t222 := ((Seq.pu 218).trans Tryz.underlying218)
  a222 := (fun w => (Seq.ag 218 w).trans (Tryz.isAgg218 w))
  z222 := (fun w => (Seq.so 218 w).trans (Tryz.sizeOf218 w))
  v222 := (fun w => (Seq.zv 218 w).trans (Tryz.zeroValue218 w))
  t228 := ((Seq.pu 221).trans Tryz.underlying221)
  a228 := (fun w => (Seq.ag 221 w).trans (Tryz.isAgg221 w))
  z228 := (fun w => (Seq.so 221 w).trans (Tryz.sizeOf221 w))
  v228 := (fun w => (Seq.zv 221 w).trans (Tryz.zeroValue221 w))
  t229 := ((Seq.pu 222).trans Tryz.underlying222)
  a229 := (fun w => (Seq.ag 222 w).trans (Tryz.isAgg222 w))
  z229 := (fun w => (Seq.so 222 w).trans (Tryz.sizeOf222 w))
  v229 := (fun w => (Seq.zv 222 w).trans (Tryz.zeroValue222 w)) }
def Seq.compInt_ren : Go.Shelf.Ren := ⟨fun | 20 => 89 | n => n, fun | 22 => 37 | 3 => 3 | 4 => 4 | 0 => 0 | n => n, fun | n => n⟩
theorem Seq.compInt : Go.Proofs.Lays2.n20 Seq.prog Seq.compInt_ren := {
  mixed := by kernel_rfl
  f20 := Seq.func89.trans (congrArg some (by kernel_rfl))
  t0 := ((Seq.pu 0).trans Tryz.underlying0)
  a0 := (fun w => (Seq.ag 0 w).trans (Tryz.isAgg0 w))
  z0 := (fun w => (Seq.so 0 w).trans (Tryz.sizeOf0 w))
  v0 := (fun w => (Seq.zv 0 w).trans (Tryz.zeroValue0 w))
  t3 := ((Seq.pu 3).trans Tryz.underlying3)
  a3 := (fun w => (Seq.ag 3 w).trans (Tryz.isAgg3 w))
  z3 := (fun w => (Seq.so 3 w).trans (Tryz.sizeOf3 w))
  v3 := (fun w => (Seq.zv 3 w).trans (Tryz.zeroValue3 w))
  t4 := ((Seq.pu 4).trans Tryz.underlying4)
  a4 := (fun w => (Seq.ag 4 w).trans (Tryz.isAgg4 w))
  z4 := (fun w => (Seq.so 4 w).trans (Tryz.sizeOf4 w))
  v4 := (fun w => (Seq.zv 4 w).trans (Tryz.zeroValue4 w))
  t22 := ((Seq.pu 37).trans Tryz.underlying37)
  a22 := (fun w => (Seq.ag 37 w).trans (Tryz.isAgg37 w))
  z22 := (fun w => (Seq.so 37 w).trans (Tryz.sizeOf37 w))
  v22 := (fun w => (Seq.zv 37 w).trans (Tryz.zeroValue37 w))
  i3 := by kernel_rfl }
end Go.Proofs.YtfphigmeppdocaaGreat
namespace Go.Proofs.YtfphigmeppdocaaGreat.Q
open Lo (Seq.prog)
open Go.RowKit
theorem wrap_rp (n:Int) (h0: -9223372036854775808 <= n) (h1:n<9223372036854775808):IntKind.i64.wrap n=n:=by
 simp only [IntKind.wrap,IntKind.bits,IntKind.signed]
 simp
 omega
theorem run_copy_splice {P:Program} (w:World) (dT sT ty elem:TypeId) (hu:P.underlying dT=some (.slice elem)) (hsz:(P.info? elem).map (·.size)=some 1)
   (dp sp:Option Addr) (dLen dCap sLen sCap:Nat) (g off:Nat) (cur:List Value) (t:TypeId) (hg:w.heap[g]? =some (.cells cur.toArray t (0,0))) (cs:List Value) (hn:cs.length=Nat.min sLen dLen)
   (hpos:0<cs.length -> dp=some ⟨g,off,none⟩ /\ ∃ad,sp=some ad /\ ∀j v,cs[j]? =some v -> w.cell? (ad.add j)=some v)
   (hfit:off+cs.length <= cur.length) (h1:∀v∈cs,v.oneCell' =true) (B:Nat) (w0:World) (hb:Below B w0 w) (hBg:B <= g):
   ∃w',(Builtin.copy_ #[dT,sT] ty #[.slice dp dLen dCap,.slice sp sLen sCap]).run P w= .ok (goInt cs.length) w' /\ Hid (w'.heap[g]? =some (.cells (splice cur off cs).toArray t (0,0))) /\ Below B w0 w':=by
 by_cases h0:cs.length=0
 · obtain rfl:cs=[]:=List.eq_nil_of_length_eq_zero h0
   exact ⟨w,run_copy_none (P:=P) w dT sT ty elem dp sp dLen dCap sLen sCap hu hsz (by simpa using hn.symm),(show _=_ by simpa [splice] using hg),hb⟩
 · obtain ⟨rfl,ad,rfl,hsrc⟩:=hpos (by omega)
   refine ⟨_,run_copy_row (P:=P) w dT sT ty elem g off dLen dCap ad sLen sCap cur.toArray t cs hu hsz hg hn hsrc (by simpa using hfit) h1,?_,below_setRow hb hBg _⟩
   exact (show _=_ by simpa [splice] using setRow_heap w g _ _ t _ hg)
theorem splice_rep {N k m:Nat} {x:Int} {cur:List Value} (hl:cur.length=N) (hc:cur.take k=(List.replicate k x).map (Value.int .i64)) (hm:k+m <= N):
   (splice cur k ((List.replicate m x).map (Value.int .i64))).length=N /\ (splice cur k ((List.replicate m x).map (Value.int .i64))).take (k+m)=(List.replicate (k+m) x).map (Value.int .i64):=by
 refine ⟨by rw [length_splice _ _ _ (by simp;omega),hl],?_⟩
 unfold splice
 rw [hc,<- List.append_assoc,<- List.map_append,List.replicate_append_replicate,List.take_append_of_le_length (by simp)]
 exact List.take_of_length_le (by simp)
set_option maxRecDepth 100000 in
set_option maxHeartbeats 4000000 in
theorem Repeat_any (x:Int) (ab ao cap N:Nat) (hN:N <= 100) (w:World) (hx:w.cell? ⟨ab,ao,none⟩=some (.int .i64 x)) (hab:ab<w.heap.size):
   Calls Seq.prog 63 #[.slice (some ⟨ab,ao,none⟩) 1 cap,.int .i64 N] w fun e w' =>e= .returned (.slice (some ⟨w.heap.size,0,none⟩) N N) /\ Zo w' w.heap.size w.heap.size N N (List.replicate N x) /\ Below w.heap.size w w':=by
 obtain ⟨i0,hi,hz0,hz1,hz2⟩:=info_parts Tryz.infoInt
 have hMul:=fun W=>Seq.bits_Mul 1 N (by omega) (by omega) W
 have e1:(1*N/18446744073709551616:Nat)=0:=by omega
 have e2:(1*N%18446744073709551616:Nat)=N:=by omega
 rw [e1,e2] at hMul
 have hszI:(Seq.prog.info? 3).map (·.size)=some 1:=by rw [hi];simp [hz1]
 have hN0:¬(N:Int)<0:=by omega
 have hwu:IntKind.u64.wrap (N:Int)=(N:Int):=by simp only [IntKind.wrap,IntKind.bits,IntKind.signed];simp;omega
 have hwi:IntKind.i64.wrap (N:Int)=(N:Int):=wrap_rp _ (by omega) (by omega)
 have HX:=hidep hx
 clear hx e1 e2
 go_enter Seq.func63,Tryz.ntmps63
 go_wp2_with fail
 refine (hMul _).mono ?_
 rintro e w' ⟨rfl,hw'⟩
 rw [hw']
 clear hw' hMul
 go_wp2_with (at_make;refine wpList_make_full _ rfl _ _ 37 rfl w.heap.size 3 i0 (.int .i64 0) 1 ((Seq.pu 37).trans Tryz.underlying37) hi hz0 hz1 .i64 .i64 _ _ N rfl rfl rfl rfl (by rw [hz2];omega) (by unfold maxLen;omega) (by simp) ?_;intro w0 hown0 hgrow0)
 have hb0:Below w.heap.size w w0:=(Below.refl _ _).grown hgrow0 (Nat.le_refl _) (fun k hk=>by cases hk)
 have hx0:w0.cell? ⟨ab,ao,none⟩=some (.int .i64 x):=(hb0.cell (p:=⟨ab,ao,none⟩) hab).trans HX.out
 have e1:(madeCells (Value.int .i64 0).cells (N*1)).toList=(List.replicate N 0).map (Value.int .i64):=by
   rw [Nat.mul_one]
   show (madeCells #[Value.int .i64 0] N).toList=_
   rw [toList_madeCells_one,List.map_replicate]
 rw [e1] at hown0
 obtain ⟨cur0,hcl0,hg0⟩:∃cur0:List Value,cur0.length=N /\ w0.heap[w.heap.size]? =some (.cells cur0.toArray 3 (0,0)):=by
   rcases hown0.2 with ⟨h,_⟩ | ⟨g,cap',cur,e,_,hg,_,_,hcs,_⟩
   · cases h
   · cases e;exact ⟨cur.toList,by simpa using hcs,by simpa using hg⟩
 clear hown0 hgrow0 e1
 obtain ⟨m,hm⟩:∃m,m=Nat.min 1 N:=⟨_,rfl⟩
 have hm1:m <= 1 /\ m <= N /\ (N=0 \/ 1 <= m):=by
   have hm' :m=min 1 N:=hm
   omega
 obtain ⟨cs,hcs⟩:∃cs,cs=(List.replicate m x).map (Value.int .i64):=⟨_,rfl⟩
 have hcl:cs.length=m:=by rw [hcs];simp
 have hc1:∀v∈cs,v.oneCell' =true:=by rw [hcs];intro v hv;simp at hv;rw [hv.2];rfl
 have hcg:∀j v,cs[j]? =some v -> w0.cell? ((⟨ab,ao,none⟩:Addr).add j)=some v:=by
   intro j v hv
   rw [hcs] at hv
   have h0:j=0:=by
     have:=(List.getElem?_eq_some_iff.1 hv).1
     simp at this;omega
   subst h0
   have:=(List.getElem?_eq_some_iff.1 hv).2
   simp at this
   rw [<- this];simpa [Addr.add] using hx0
 have HCs:=hidep hcs
 have HS:=hidep (splice_rep (k:=0) (m:=m) (x:=x) hcl0 (by simp) (by omega))
 have HM:=hidep hm
 have hm1i:(m:Int) <= N:=by omega
 clear hcs hm
 obtain ⟨w1,hrun,hg1,hb1⟩:=run_copy_splice (P:=Seq.prog) w0 37 37 3 3 ((Seq.pu 37).trans Tryz.underlying37) hszI (some ⟨w.heap.size,0,none⟩) (some ⟨ab,ao,none⟩) N N 1 cap w.heap.size 0 cur0 3 hg0 cs (by rw [hcl,HM.out]) (fun _=>⟨rfl,_,rfl,hcg⟩) (by omega) hc1 w.heap.size w hb0 (Nat.le_refl _)
 rw [hrun,hcl]
 clear hrun hc1 hcg hcl hg0 hb0 hx0
 simp only [Result.andThen]
 go_wp2_with fail
 go_loopw [8] (fun n wr=>∃(k:Nat) (cur:List Value),k <= N /\ (N=0 \/ 1 <= k) /\ n= .int .i64 k /\ cur.length=N /\ cur.take k=(List.replicate k x).map (Value.int .i64) /\ Hid (wr.heap[w.heap.size]? =some (.cells cur.toArray 3 (0,0))) /\ Below w.heap.size w wr) (fun n _=>N-(intOf n).toNat)
 case atStart=>
   refine ⟨m,splice cur0 0 cs,by omega,by omega,rfl,?_,?_,hg1,hb1⟩
   · rw [HCs.out];exact HS.out.1
   · rw [HCs.out];have:=HS.out.2;rwa [Nat.zero_add] at this
 case round=>
   clear hg1 hb1 HCs HS HM
   obtain ⟨k,cur,hk,hk1,rfl,hcl,hct,hg,hb⟩:=hrel
   by_cases hkN:k<N
   · have hkNi:(k:Int)<(N:Int):=by omega
     have hne:¬N=k:=by omega
     obtain ⟨m2,hm2⟩:∃m,m=Nat.min k (N-k):=⟨_,rfl⟩
     have hm2' :m2 <= k /\ k+m2 <= N /\ 1 <= m2:=by
       have hm' :m2=min k (N-k):=hm2
       omega
     obtain ⟨cs2,hcs2⟩:∃cs,cs=(List.replicate m2 x).map (Value.int .i64):=⟨_,rfl⟩
     have hcl2:cs2.length=m2:=by rw [hcs2];simp
     have hc12:∀v∈cs2,v.oneCell' =true:=by rw [hcs2];intro v hv;simp at hv;rw [hv.2];rfl
     have hcg2:∀j v,cs2[j]? =some v -> wr.cell? ((⟨w.heap.size,0,none⟩:Addr).add j)=some v:=by
       intro j v hv
       have hj:=(List.getElem?_eq_some_iff.1 hv).1
       rw [hcl2] at hj
       rw [hcs2] at hv
       have h1:(cur.take k)[j]? =some v:=by
         rw [hct]
         simp [show j<k by omega,show j<m2 by omega] at hv ⊢
         exact hv
       rw [List.getElem?_take_of_lt (by omega)] at h1
       have hgo:=hg.out
       have ea:(⟨w.heap.size,0,none⟩:Addr).add j=⟨w.heap.size,j,none⟩:=by unfold Addr.add;split<;>simp_all
       rw [ea]
       simp [World.cell?,hgo,h1]
     have HE2:Hid ((splice cur k cs2).length=N /\ (splice cur k cs2).take (k+m2)=(List.replicate (k+m2) x).map (Value.int .i64)):=by
       rw [hcs2];exact splice_rep hcl hct hm2'.2.1
     have hfit2:k+cs2.length <= cur.length:=by omega
     have hwk:IntKind.i64.wrap ((k:Int)+(m2:Int))=(k:Int)+(m2:Int):=wrap_rp _ (by omega) (by omega)
     have HM2:=hidep hm2
     have hsub:((N:Int)-(k:Int)).toNat=N-k:=by omega
     clear hcs2 hm2 hct
     go_wp2_with fail
     refine Go.wp_region_held (S:=fun _=>True) (by kernel_rfl) ?_
     have hSw:True:=trivial
     refine take_lit (i:=0) (v:= ?_) rfl (by kernel_rfl) (by kernel_rfl) (by kernel_rfl) (fun _ _ _ h=>h) (Or.inl ⟨by rfl,?hy0⟩) (by assumption) ?_
     case hy0=>(intro w hSw;(try dsimp only at hSw);go_simp;try with_reducible rfl)
     try simp only [Act.put,List.setIfInBounds_toArray,List.set_cons_zero,List.set_cons_succ]
     refine take_lit (i:=1) (v:= ?_) rfl (by kernel_rfl) (by kernel_rfl) (by kernel_rfl) (fun _ _ _ h=>h) (Or.inl ⟨by rfl,?hy1⟩) (by assumption) ?_
     case hy1=>(intro w hSw;(try dsimp only at hSw);go_simp;try with_reducible rfl)
     try simp only [Act.put,List.setIfInBounds_toArray,List.set_cons_zero,List.set_cons_succ]
     refine take_lit (i:=2) (v:= ?_) rfl (by kernel_rfl) (by kernel_rfl) (by kernel_rfl) (fun _ _ _ h=>h) (Or.inl ⟨by rfl,?hy2⟩) (by assumption) ?_
     case hy2=>(intro w hSw;(try dsimp only at hSw);go_simp;try with_reducible rfl)
     try simp only [Act.put,List.setIfInBounds_toArray,List.set_cons_zero,List.set_cons_succ]
     refine take_lit (i:=3) (v:= ?_) rfl (by kernel_rfl) (by kernel_rfl) (by kernel_rfl) (fun _ _ _ h=>h) (Or.inl ⟨by rfl,?hy3⟩) (by assumption) ?_
     case hy3=>(intro w hSw;(try dsimp only at hSw);go_simp;try with_reducible rfl)
     try simp only [Act.put,List.setIfInBounds_toArray,List.set_cons_zero,List.set_cons_succ]
     refine take_lit (i:=4) (v:= ?_) rfl (by kernel_rfl) (by kernel_rfl) (by kernel_rfl) (fun _ _ _ h=>h) (Or.inl ⟨by rfl,?hy4⟩) (by assumption) ?_
     case hy4=>(intro w hSw;(try dsimp only at hSw);go_simp;try with_reducible rfl)
     try simp only [Act.put,List.setIfInBounds_toArray,List.set_cons_zero,List.set_cons_succ]
     refine take_lit (i:=5) (v:= ?_) rfl (by kernel_rfl) (by kernel_rfl) (by kernel_rfl) (fun _ _ _ h=>h) (Or.inl ⟨by rfl,?hy5⟩) (by assumption) ?_
     case hy5=>(intro w hSw;(try dsimp only at hSw);go_simp;try with_reducible rfl)
     try simp only [Act.put,List.setIfInBounds_toArray,List.set_cons_zero,List.set_cons_succ]
     refine take_lit (i:=6) (v:= ?_) rfl (by kernel_rfl) (by kernel_rfl) (by kernel_rfl) (fun _ _ _ h=>h) (Or.inl ⟨by rfl,?hy6⟩) (by assumption) ?_
     case hy6=>(intro w hSw;(try dsimp only at hSw);go_simp;try with_reducible rfl)
     try simp only [Act.put,List.setIfInBounds_toArray,List.set_cons_zero,List.set_cons_succ]
     refine next_lit (i:=7) rfl (by kernel_rfl) (fun K hK=> ?_)
     go_simp
     obtain ⟨w4,hrun,hg4,hb4⟩:=run_copy_splice (P:=Seq.prog) wr.drew 37 37 3 3 ((Seq.pu 37).trans Tryz.underlying37) hszI (some ⟨w.heap.size,k,none⟩) (some ⟨w.heap.size,0,none⟩) (N-k) (N-k) k N w.heap.size k cur 3 hg.out cs2 (by rw [hcl2,HM2.out]) (fun _=>⟨rfl,_,rfl,hcg2⟩) hfit2 hc12 w.heap.size w (below_drewN hb 1) (Nat.le_refl _)
     rw [hrun,hcl2]
     clear hrun
     simp only [Result.andThen]
     go_simp
     refine hK.out _ _ trivial (fun _=> ?_)
     clear hK K
     try simp only [Act.put,List.setIfInBounds_toArray,List.set_cons_zero,List.set_cons_succ]
     refine take_lit (i:=8) (v:= ?_) rfl (by kernel_rfl) (by kernel_rfl) (by kernel_rfl) (fun _ _ _ h=>h) (Or.inl ⟨by rfl,?hy8⟩) (by assumption) ?_
     case hy8=>(intro w hSw;(try dsimp only at hSw);go_simp;try with_reducible rfl)
     try simp only [Act.put,List.setIfInBounds_toArray,List.set_cons_zero,List.set_cons_succ]
     refine take_lit (i:=9) (v:= ?_) rfl (by kernel_rfl) (by kernel_rfl) (by kernel_rfl) (fun _ _ _ h=>h) (Or.inl ⟨by rfl,?hy9⟩) (by assumption) ?_
     case hy9=>(intro w hSw;(try dsimp only at hSw);go_simp;try with_reducible rfl)
     try simp only [Act.put,List.setIfInBounds_toArray,List.set_cons_zero,List.set_cons_succ]
     refine wpAnyH_done (by kernel_rfl) ?_ _
     go_wp2
     go_roundw
     case rel=>exact ⟨k+m2,splice cur k cs2,by omega,by omega,by go_num,HE2.out.1,HE2.out.2,hg4,hb4⟩
     case measure=>simp [intOf];omega
   · have hke:N=k:=by omega
     subst hke
     have HZ:Hid (Zo wr w.heap.size w.heap.size N N (List.replicate N x)):=by
       refine ⟨by simp,.inr ⟨w.heap.size,N,cur.toArray,rfl,Nat.le_refl _,hg.out,Nat.le_refl _,by unfold maxLen;omega,by simp [hcl],by simpa using hct⟩⟩
     clear hct hg hcl
     go_wp2
     go_ret
     exact ⟨rfl,HZ.out,hb⟩
theorem wrap_nr (n:Int) (h0: -9223372036854775808 <= n) (h1:n<9223372036854775808):IntKind.i64.wrap n=n:=by
 simp only [IntKind.wrap,IntKind.bits,IntKind.signed]
 simp
 omega
structure GBox (w W:World) (B:Nat) (g:Gr) (la ea:Option Addr) (lc ec:Nat):Prop where
 c0:W.cell? ⟨B,0,none⟩=some (.int .i64 g.hor)
 c1:W.cell? ⟨B,1,none⟩=some (.slice la g.lives.length lc)
 c2:W.cell? ⟨B,2,none⟩=some (.slice ea g.edges.length ec)
 bel:Below w.heap.size w W
 lt:B<W.heap.size
theorem gbox_start (w:World) (g:Gr) (la ea:Option Addr) (lc ec:Nat) (T:TypeId):GBox w (w.alloc (.cells #[.int .i64 g.hor,.slice la g.lives.length lc,.slice ea g.edges.length ec] T)) w.heap.size g la ea lc ec:=
 ⟨by simp,by simp,by simp,gal w _,by simp⟩
theorem GBox.below {w W W' :World} {B:Nat} {g:Gr} {la ea:Option Addr} {lc ec:Nat} (h:GBox w W B g la ea lc ec) (hb:Below W.heap.size W W'):GBox w W' B g la ea lc ec:=
 ⟨(hb.cell (p:=⟨B,0,none⟩) h.lt).trans h.c0,(hb.cell (p:=⟨B,1,none⟩) h.lt).trans h.c1,(hb.cell (p:=⟨B,2,none⟩) h.lt).trans h.c2,ptg h.bel hb,Nat.lt_of_lt_of_le h.lt hb.size⟩
theorem results_two_e {fn:Func} {t u:Tmp} (h:fn.results=#[.tmp t,.tmp u]) (tmps:Array Value) (P:Program) (w:World):
   (results fn tmps).run P w= .ok (.tuple #[tmps.getD t undef,tmps.getD u undef]) w:=by
 simp [results,h]
theorem made_six (n:Nat):(madeCells (Value.agg #[.int .i64 0,.int .i64 0,.int .i64 0,.int .i64 0,.int .i64 0,.int .i64 0]).cells (n*6)).toList=encRs (List.replicate n (0,0,0,0,0,0)):=by
 apply List.ext_getElem?
 intro j
 have hl:(madeCells (Value.agg #[.int .i64 0,.int .i64 0,.int .i64 0,.int .i64 0,.int .i64 0,.int .i64 0]).cells (n*6)).toList.length=n*6:=by rw [Array.length_toList,size_madeCells]
 by_cases hj:j<n*6
 · have e0:∀x∈encRs (List.replicate n ((0:Int),(0:Int),(0:Int),(0:Int),(0:Int),(0:Int))),x=Value.int .i64 0:=by
     intro x hx
     unfold encRs at hx
     simp only [List.mem_flatMap,List.mem_replicate] at hx
     obtain ⟨y,⟨_,rfl⟩,hy⟩:=hx
     simp [encR] at hy
     exact hy
   have hj2:j<(encRs (List.replicate n ((0:Int),(0:Int),(0:Int),(0:Int),(0:Int),(0:Int)))).length:=by rw [encRs_length,List.length_replicate];exact hj
   rw [List.getElem?_eq_getElem (by omega),List.getElem?_eq_getElem hj2,e0 _ (List.getElem_mem hj2)]
   congr 1
   have h3:(Value.agg #[.int .i64 0,.int .i64 0,.int .i64 0,.int .i64 0,.int .i64 0,.int .i64 0]).cells=#[Value.int .i64 0,.int .i64 0,.int .i64 0,.int .i64 0,.int .i64 0,.int .i64 0]:=by rfl
   simp only [madeCells,h3,Array.getElem_toList,Array.getElem_map,Array.getElem_range]
   have:j%6=0 \/ j%6=1 \/ j%6=2 \/ j%6=3 \/ j%6=4 \/ j%6=5:=by omega
   rcases this with e | e | e | e | e | e<;>simp [e]
 · rw [List.getElem?_eq_none (by omega),List.getElem?_eq_none (by rw [encRs_length,List.length_replicate];omega)]
theorem encRs_cons (x:Ri) (l:List Ri):encRs (x::l)= .int .i64 x.1:: .int .i64 x.2.1:: .int .i64 x.2.2.1:: .int .i64 x.2.2.2.1:: .int .i64 x.2.2.2.2.1:: .int .i64 x.2.2.2.2.2::encRs l:=by simp [encRs,encR]
theorem encRs_set:∀(m:List Ri) (k:Nat) (q:Ri),k<m.length -> ((((((encRs m).set (k*6) (.int .i64 q.1)).set (k*6+1) (.int .i64 q.2.1)).set (k*6+2) (.int .i64 q.2.2.1)).set (k*6+3) (.int .i64 q.2.2.2.1)).set (k*6+4) (.int .i64 q.2.2.2.2.1)).set (k*6+5) (.int .i64 q.2.2.2.2.2)=encRs (m.set k q)
 | [],k,q,h=>by simp at h
 | x::m,0,q,_=>by
   have e:(x::m).set 0 q=q::m:=rfl
   rw [e,encRs_cons,encRs_cons];rfl
 | x::m,k+1,q,h=>by
   have ih:=encRs_set m k q (by simpa using h)
   have e:(x::m).set (k+1) q=x::m.set k q:=rfl
   rw [e,encRs_cons,encRs_cons,<- ih,show (k+1)*6=k*6+1+1+1+1+1+1 from by omega]
   rfl
abbrev Ro (w:World) (base gb n cap:Nat) (x:List Ri):Prop:=w.ownsRow base 97 6 (.slice (some ⟨gb,0,none⟩) n cap) n (encRs x)
theorem Ro.len {w:World} {base gb n cap:Nat} {x:List Ri} (h:Ro w base gb n cap x):x.length=n:=by have:=h.1;rw [encRs_length] at this;omega
theorem Ro.one {w:World} {base gb n cap:Nat} {x:List Ri} (h:Ro w base gb n cap x) {k:Nat} (hk:k<n):RdOne w gb (k*6) (x.getD k ri0):=by
 have hl:=h.len
 obtain ⟨f0,f1,f2,f3,f4,f5⟩:=encRs_get x k (by omega)
 refine ⟨?_,?_,?_,?_,?_,?_⟩
 · rw [World.ownsRow.cellAt h (k*6) (by omega)];exact f0
 · rw [World.ownsRow.cellAt h (k*6+1) (by omega)];exact f1
 · rw [World.ownsRow.cellAt h (k*6+2) (by omega)];exact f2
 · rw [World.ownsRow.cellAt h (k*6+3) (by omega)];exact f3
 · rw [World.ownsRow.cellAt h (k*6+4) (by omega)];exact f4
 · rw [World.ownsRow.cellAt h (k*6+5) (by omega)];exact f5
def setR (w:World) (gb k:Nat) (q:Ri):World:=(((((w.setCell ⟨gb,k*6,none⟩ (.int .i64 q.1)).setCell ⟨gb,k*6+1,none⟩ (.int .i64 q.2.1)).setCell ⟨gb,k*6+2,none⟩ (.int .i64 q.2.2.1)).setCell ⟨gb,k*6+3,none⟩ (.int .i64 q.2.2.2.1)).setCell ⟨gb,k*6+4,none⟩ (.int .i64 q.2.2.2.2.1)).setCell ⟨gb,k*6+5,none⟩ (.int .i64 q.2.2.2.2.2)
theorem Ro.set {w:World} {base gb n cap:Nat} {x:List Ri} (h:Ro w base gb n cap x) {k:Nat} (hk:k<n) (q:Ri):Ro (setR w gb k q) base gb n cap (x.set k q):=by
 have hl:=h.len
 have h5:=(World.ownsRow.stored ((World.ownsRow.stored ((World.ownsRow.stored ((World.ownsRow.stored ((World.ownsRow.stored ((World.ownsRow.stored h (k*6) (.int .i64 q.1)).1) (k*6+1) (.int .i64 q.2.1)).1) (k*6+2) (.int .i64 q.2.2.1)).1) (k*6+3) (.int .i64 q.2.2.2.1)).1) (k*6+4) (.int .i64 q.2.2.2.2.1)).1) (k*6+5) (.int .i64 q.2.2.2.2.2)).1
 rw [encRs_set x k q (by omega)] at h5
 exact h5
theorem setR_other {w:World} {base:Nat} {e:TypeId} {size:Nat} {v:Value} {n:Nat} {xs:List Value} (h:w.ownsRow base e size v n xs) {gb k:Nat} (ha:v.ownBlock≠some gb) (q:Ri):(setR w gb k q).ownsRow base e size v n xs:=
 ownsRow_setCell_other (ownsRow_setCell_other (ownsRow_setCell_other (ownsRow_setCell_other (ownsRow_setCell_other (ownsRow_setCell_other h ha _) ha _) ha _) ha _) ha _) ha _
theorem setR_below {B:Nat} {w0 w:World} (h:Below B w0 w) {gb:Nat} (hg:B <= gb) (k:Nat) (q:Ri):Below B w0 (setR w gb k q):=
 (((((h.setCell (p:=⟨gb,k*6,none⟩) hg _).setCell (p:=⟨gb,k*6+1,none⟩) hg _).setCell (p:=⟨gb,k*6+2,none⟩) hg _).setCell (p:=⟨gb,k*6+3,none⟩) hg _).setCell (p:=⟨gb,k*6+4,none⟩) hg _).setCell (p:=⟨gb,k*6+5,none⟩) hg _
theorem cellFar {w:World} {b j b' j' :Nat} {v:Value} (h:b' ≠b):(w.setCell ⟨b,j,none⟩ v).cell? ⟨b',j',none⟩=w.cell? ⟨b',j',none⟩:=by
 refine World.cell?_setCell_other _ _ _ _ (fun e=>h ?_)
 have:=congrArg Addr.block e
 exact this.symm
theorem own_none {v:Value} {b:Nat} (h:∀k,v.ownBlock=some k -> b<k):v.ownBlock≠some b:=fun e=>Nat.lt_irrefl _ (h b e)
structure ErSt (w0 w:World) (m1 m2 m3 n:Nat) (u:Value) (rides:List Ri) (T:List Int) (L:List Ri):Prop where
 t:Zo w w0.heap.size m1 n n T
 l:Ro w w0.heap.size m2 n n L
 r:w.ownsRow m3 97 6 u rides.length (encRs rides)
 b:Below w0.heap.size w0 w
theorem ErSt.below {w0 w w' :World} {m1 m2 m3 n:Nat} {u:Value} {rides:List Ri} {T:List Int} {L:List Ri} (h:ErSt w0 w m1 m2 m3 n u rides T L) (hb:Below w.heap.size w w'):ErSt w0 w' m1 m2 m3 n u rides T L:=
 ⟨ownsRow_below h.t hb,ownsRow_below h.l hb,ownsRow_below h.r hb,h.b.trans (hb.mono h.b.size)⟩
theorem ErSt.set {w0 w:World} {m1 m2 m3 n:Nat} {u:Value} {rides:List Ri} {T:List Int} {L:List Ri} (h:ErSt w0 w m1 m2 m3 n u rides T L) (h12:m1<m2) (h23:m2<m3) {k:Nat} (hk:k<n) (x:Int) (q:Ri):
   ErSt w0 (setR (w.setCell ⟨m1,k,none⟩ (.int .i64 x)) m2 k q) m1 m2 m3 n u rides (T.set k x) (L.set k q):=by
 have hm1:w0.heap.size <= m1:=(h.t.lt m1 rfl).1
 have hu:∀b,b<m3 -> u.ownBlock≠some b:=fun b hb=>own_none fun k hk=>Nat.lt_of_lt_of_le hb (h.r.lt k hk).1
 refine ⟨setR_other (h.t.set k x) (by simp [Value.ownBlock];omega) q,?_,setR_other (ownsRow_setCell_other h.r (hu m1 (by omega)) _) (hu m2 h23) q,setR_below (h.b.setCell (p:=⟨m1,k,none⟩) hm1 _) (by omega) k q⟩
 exact Ro.set (ownsRow_setCell_other h.l (by simp [Value.ownBlock];omega) _) hk q
theorem ErSt.ride {w0 w:World} {m1 m2 m3 n:Nat} {u:Value} {rides:List Ri} {T:List Int} {L:List Ri} (h:ErSt w0 w m1 m2 m3 n u rides T L) {k:Nat} (hk:k<rides.length):∃rb cap,u= .slice (some ⟨rb,0,none⟩) rides.length cap /\ rb<w.heap.size /\ RdOne w rb (k*6) (rides.getD k ri0):=by
 have hr:=h.r
 rcases hr.2 with ⟨_,h0⟩ | ⟨rb,cap,cur,e,_,hh,_⟩
 · omega
 · rw [e] at hr
   exact ⟨rb,cap,e,(Array.getElem?_eq_some_iff.1 hh).1,Ro.one hr hk⟩
set_option maxRecDepth 100000 in
set_option maxHeartbeats 400000 in
theorem earliest_any (g:Gr) (la ea:Option Addr) (lc ec:Nat) (v t:Int) (w:World) (hG:GAt w la ea g) (hpl:placeE g v t=0):
   Calls Seq.prog 37 #[.agg #[.int .i64 g.hor,.slice la g.lives.length lc,.slice ea g.edges.length ec],.int .i64 v,.int .i64 t] w fun r w' =>∃m1 m2,r= .returned (.tuple #[.slice (some ⟨m1,0,none⟩) g.lives.length g.lives.length,.slice (some ⟨m2,0,none⟩) g.lives.length g.lives.length]) /\ Zo w' w.heap.size m1 g.lives.length g.lives.length (erF g v t).1 /\ Ro w' w.heap.size m2 g.lives.length g.lives.length (erF g v t).2 /\ Below w.heap.size w w':=by
 obtain ⟨i0,hi,hz0,hz1,hz2⟩:=info_parts Tryz.infoRide
 obtain ⟨hg0,⟨hv0,hv1⟩,ht0,ht1⟩:=placeE_zero hpl
 have hR:=gChk_right hg0
 have hn12:=hR.lvs
 obtain ⟨V,rfl⟩:∃V:Nat,v=(V:Int):=⟨v.toNat,by omega⟩
 have hVg:V<g.lives.length:=by omega
 obtain ⟨w1,hw1⟩:∃x,x=w.alloc (.cells #[.int .i64 g.hor,.slice la g.lives.length lc,.slice ea g.edges.length ec] 25):=⟨_,rfl⟩
 have B1:GBx w w1 w.heap.size g la ea lc ec:=by rw [hw1];exact gbx_start w g la ea lc ec 25
 obtain ⟨w2,hw2⟩:∃x,x=w1.alloc (.cells #[.int .i64 1099511627776] 3):=⟨_,rfl⟩
 have B2:GBx w w2 w.heap.size g la ea lc ec:=by rw [hw2];exact B1.below (gal w1 _)
 have hs1:w1.heap.size=w.heap.size+1:=by rw [hw1];simp
 have hs2:w2.heap.size=w.heap.size+1+1:=by rw [hw2];simp [hs1]
 have hRep:=Repeat_any 1099511627776 (w.heap.size+1) 0 1 g.lives.length (by omega) w2 (by rw [hw2];exact new_cell hs1.symm rfl) (by omega)
 have g1:=B2.c1
 have HG:=hideg hG
 have HB2:=hideg B2
 have HRt:=hideg hR
 have hw1s:=hw1.symm
 have hw2s:=hw2.symm
 clear hG hpl hg0 hR B1 B2 hw1 hw2
 go_enter Seq.func37,Tryz.ntmps37
 go_wp2_with fail
 refine hRep.mono ?_
 rintro r w3 ⟨rfl,hZ3,hb3⟩
 have B3:=HB2.out.below hb3
 have g1':=B3.c1
 have hs3:=(World.ownsRow.lt hZ3 _ rfl).2
 clear hRep hw1s hw2s g1 HB2
 go_wp2_with (at_make;refine wpList_make_full _ rfl _ _ 83 rfl w.heap.size 97 i0 _ 6 ((Seq.pu 83).trans Tryz.underlying83) hi hz0 hz1 .i64 .i64 _ _ g.lives.length rfl rfl rfl rfl (by rw [hz2];omega) (by unfold maxLen;omega) (by omega) ?_;intro w4 hown4 hgrow4;refine stopHereR ?_)
 refine hideg ?_
 rw [made_six] at hown4
 have hb4:Below w3.heap.size w3 w4:=(Below.refl _ _).grown hgrow4 (Nat.le_refl _) (fun k hk=>by cases hk)
 have B4:=B3.below hb4
 have hZ4:=owns_base2 (ownsRow_below hZ3 hb4) (show w.heap.size <= w2.heap.size by omega)
 have hGA:=HG.out.below B4.bel
 obtain ⟨lb,lof,rfl,hlb,hlc⟩:∃b off,la=some ⟨b,off,none⟩ /\ b<w4.heap.size /\ (w4.cell? ⟨b,off+V*2,none⟩=some (.int .i64 g.lives[V].1) /\ w4.cell? ⟨b,off+V*2+1,none⟩=some (.int .i64 g.lives[V].2)):=by
   rcases hGA.lv with h0 | ⟨b,off,rfl,hbr,hc⟩
   · rw [h0] at hVg;simp at hVg
   exact ⟨b,off,rfl,hbr,IvAt.get hVg hc⟩
 obtain ⟨lc0,lc1⟩:=hlc
 have g1:=B4.c1
 have hs4:=(World.ownsRow.lt hown4 _ rfl).2
 have hal:=fun W=>jalive_any g.lives[V].1 g.lives[V].2 t W
 rw [<- aliveB_at t g.lives V hVg] at hal
 have HB4:=hideg B4
 clear hgrow4 hb4 B3 B4 hZ3 hb3 g1' hGA
 cases ha:aliveB t g.lives (V:Int) with
 | false=>
   rw [ha] at hal
   have HE:Hid (erF g (V:Int) t=(List.replicate g.lives.length 1099511627776,List.replicate g.lives.length (0,0,0,0,0,0))):=by show _=_;unfold erF;rw [if_neg (by rw [ha];simp)]
   clear ha
   go_wp2_with fail
   refine (hal _).mono ?_
   rintro r w5 ⟨rfl,hb5⟩
   have hZ5:=ownsRow_below hZ4 hb5
   rw [hs2] at hZ5
   have HZ5:=hideg hZ5
   have HL5:=hideg (ownsRow_below hown4 hb5)
   have HB5:=hideg (HB4.out.below hb5).bel
   clear hal hb5 hZ4 hown4 HB4 lc0 lc1 g1 hZ5
   go_wp2
   (try simp only [Exit.inBlock,Exit.then]);refine bodyPost_ret (results_two_e rfl _ _ _) rfl ?_
   exact ⟨_,_,rfl,by rw [HE.out];exact HZ5.out,by rw [HE.out];exact HL5.out,HB5.out⟩
 | true=>
   rw [ha] at hal
   have HE:Hid (erF g (V:Int) t=erGo (er0 g (V:Int) t) (ridesF g)):=by show _=_;unfold erF;rw [if_pos ha]
   clear ha
   go_wp2_with fail
   refine (hal _).mono ?_
   rintro r w5 ⟨rfl,hb5⟩
   have hZ5:=ownsRow_below hZ4 hb5
   have hL5:=ownsRow_below hown4 hb5
   have B5:=HB4.out.below hb5
   have hs5:=hb5.size
   have fz:=World.ownsRow.frozenAt hZ5 V
   have cv:=Zo.cell hZ5 hVg
   rw [hs2] at fz cv
   clear hal hb5 hZ4 hown4 HB4 lc0 lc1 g1
   obtain ⟨w6,hw6⟩:∃x,x=w5.setCell ⟨w.heap.size+1+1,V,none⟩ (.int .i64 t):=⟨_,rfl⟩
   have hZ6:Zo w6 w.heap.size (w.heap.size+1+1) g.lives.length g.lives.length (er0 g (V:Int) t).1:=by
     rw [hw6];rw [hs2] at hZ5
     have:=Zo.set hZ5 V t
     simpa [er0] using this
   have hL6:Ro w6 w.heap.size w3.heap.size g.lives.length g.lives.length (er0 g (V:Int) t).2:=by
     rw [hw6];exact ownsRow_setCell_other hL5 (by simp [Value.ownBlock];omega) _
   have hb6:Below w.heap.size w w6:=by rw [hw6];exact B5.bel.setCell (p:=⟨w.heap.size+1+1,V,none⟩) (by simp only;omega) _
   have hs6:w5.heap.size=w6.heap.size:=by rw [hw6];simp [World.setCell]
   have k0:w6.cell? ⟨w.heap.size,0,none⟩=some (.int .i64 g.hor):=by rw [hw6,cellFar (by omega)];exact B5.c0
   have k1:w6.cell? ⟨w.heap.size,1,none⟩=some (.slice (some ⟨lb,lof,none⟩) g.lives.length lc):=by rw [hw6,cellFar (by omega)];exact B5.c1
   have k2:w6.cell? ⟨w.heap.size,2,none⟩=some (.slice ea g.edges.length ec):=by rw [hw6,cellFar (by omega)];exact B5.c2
   have hRd:=Rides_any g (some ⟨lb,lof,none⟩) ea lc ec w6 (HG.out.below hb6) HRt.out
   have hw6s:=hw6.symm
   clear hw6 hZ5 hL5 B5
   obtain ⟨M1,hM1⟩:∃M,M=w.heap.size+1+1:=⟨_,rfl⟩
   obtain ⟨M2,hM2⟩:∃M,M=w3.heap.size:=⟨_,rfl⟩
   obtain ⟨M3,hM3⟩:∃M,M=w6.heap.size:=⟨_,rfl⟩
   have h12:M1<M2:=by omega
   have h23:M2<M3:=by omega
   go_wp2_with fail
   refine hRd.mono ?_
   rintro r w7 ⟨u,rfl,hu7,hb7⟩
   rw [<- hM1,<- hM2]
   rw [<- hM1] at hZ6
   rw [<- hM2] at hL6
   rw [<- hM3] at hu7
   have S7:ErSt w w7 M1 M2 M3 g.lives.length u (ridesF g) (erGo (er0 g (V:Int) t) ((ridesF g).take 0)).1 (erGo (er0 g (V:Int) t) ((ridesF g).take 0)).2:=⟨ownsRow_below hZ6 hb7,ownsRow_below hL6 hb7,hu7,hb6.trans (hb7.mono hb6.size)⟩
   have hok:∀r∈ridesF g,RideOk g r:=fun r hr=>mem_rides HRt.out hr
   have hll:(ridesF g).length <= 3000:=Nat.le_trans (ridesTo_len g _) (Nat.le_trans (Nat.mul_le_mul (show g.hor.toNat <= 100 by have:=HRt.out.hor;omega) HRt.out.eds) (by omega))
   obtain ⟨ao,cap,rfl,_⟩:=rdAt_of_owns hu7
   generalize ridesF g=rides at*
   have HOk:=hideg hok
   clear hRd hw6s hZ6 hL6 hb6 hu7 hb7 k0 k1 k2 fz cv hM1 hM2 hM3 hs6 hs5 hs4 hs3 hs2 hs1 HG HRt hok hlb
   go_wp2_with fail
   go_loopw [38] (fun i wr=>∃k:Nat,k <= rides.length /\ i= .int .i64 k /\ ErSt w wr M1 M2 M3 g.lives.length (.slice ao rides.length cap) rides (erGo (er0 g (V:Int) t) (rides.take k)).1 (erGo (er0 g (V:Int) t) (rides.take k)).2) (fun i _=>rides.length-(intOf i).toNat)
   case atStart=>exact ⟨0,Nat.zero_le _,rfl,S7⟩
   case round=>
     clear S7
     obtain ⟨k,hk,rfl,S⟩:=hrel
     by_cases hkl:k<rides.length
     · have hkli:(k:Int)<(rides.length:Int):=by omega
       have hkw:IntKind.i64.wrap ((k:Int)+1)=(k:Int)+1:=wrap_nj _ (by omega) (by omega)
       obtain ⟨rb,cap',e,hrb,hRo⟩:=S.ride hkl
       simp only [Value.slice.injEq,true_and] at e
       obtain ⟨rfl,rfl⟩:=e
       have hmem:=HOk.out rides[k] (List.getElem_mem hkl)
       have hgd:rides.getD k ri0=rides[k]:=by rw [List.getD_eq_getElem?_getD,List.getElem?_eq_getElem hkl];rfl
       have HT:=hideg (erGo_take (s:=er0 g (V:Int) t) hkl)
       rw [hgd] at hRo
       generalize rides[k]=rr at*
       obtain ⟨E,d,a,b,ar,c⟩:=rr
       have ha0:=hmem.a0
       have hb0:=hmem.b0
       simp only at ha0 hb0
       obtain ⟨A,rfl⟩:∃A:Nat,a=(A:Int):=⟨a.toNat,by omega⟩
       obtain ⟨B,rfl⟩:∃B:Nat,b=(B:Int):=⟨b.toNat,by omega⟩
       have hA:A<g.lives.length:=by omega
       have hB:B<g.lives.length:=by omega
       generalize (erGo (er0 g (V:Int) t) (rides.take k)).1=T at*
       generalize (erGo (er0 g (V:Int) t) (rides.take k)).2=L at*
       obtain ⟨wa,hwa⟩:∃x,x=wr.alloc (.cells #[.int .i64 E,.int .i64 d,.int .i64 (A:Int),.int .i64 (B:Int),.int .i64 ar,.int .i64 c] 97):=⟨_,rfl⟩
       have c0:=hRo.c0
       have c1:=hRo.c1
       have c2:=hRo.c2
       have c3:=hRo.c3
       have c4:=hRo.c4
       have c5:=hRo.c5
       simp only at c0 c1 c2 c3 c4 c5
       have Sa:ErSt w wa M1 M2 M3 g.lives.length (.slice (some ⟨rb,0,none⟩) rides.length cap) rides T L:=by rw [hwa];exact S.below (gal wr _)
       have xa:=Zo.cell Sa.t hA
       have xb:=Zo.cell Sa.t hB
       have y0:wa.cell? ⟨wr.heap.size,0,none⟩=some (.int .i64 E):=by rw [hwa];exact new_cell rfl rfl
       have y1:wa.cell? ⟨wr.heap.size,1,none⟩=some (.int .i64 d):=by rw [hwa];exact new_cell rfl rfl
       have y2:wa.cell? ⟨wr.heap.size,2,none⟩=some (.int .i64 (A:Int)):=by rw [hwa];exact new_cell rfl rfl
       have y3:wa.cell? ⟨wr.heap.size,3,none⟩=some (.int .i64 (B:Int)):=by rw [hwa];exact new_cell rfl rfl
       have y4:wa.cell? ⟨wr.heap.size,4,none⟩=some (.int .i64 ar):=by rw [hwa];exact new_cell rfl rfl
       have y5:wa.cell? ⟨wr.heap.size,5,none⟩=some (.int .i64 c):=by rw [hwa];exact new_cell rfl rfl
       have hwas:=hwa.symm
       have HSa:=hideg Sa
       have HS0:Hid (M1<wr.heap.size /\ M2<wr.heap.size):=⟨(World.ownsRow.lt S.t _ rfl).2,(World.ownsRow.lt S.l _ rfl).2⟩
       clear hRo S Sa hmem hgd hwa
       obtain ⟨x1,hx1⟩:∃x,x=T.getD A 0:=⟨_,rfl⟩
       obtain ⟨x2,hx2⟩:∃x,x=T.getD B 0:=⟨_,rfl⟩
       rw [<- hx1] at xa
       rw [<- hx2] at xb
       have HX1:=hideg hx1
       have HX2:=hideg hx2
       have hAi:(A:Int)<(g.lives.length:Int):=by omega
       have hBi:(B:Int)<(g.lives.length:Int):=by omega
       have HNo:Hid (¬(x1 <= d /\ ar<x2) -> erGo (er0 g (V:Int) t) (rides.take (k+1))=(T,L)):=by
         intro h
         rw [HT.out]
         unfold erT erL
         simp only [Int.toNat_natCast]
         rw [<- HX1.out,<- HX2.out,if_neg h,if_neg h]
       have HYes:Hid (x1 <= d /\ ar<x2 -> erGo (er0 g (V:Int) t) (rides.take (k+1))=(T.set B ar,L.set B (E,d,(A:Int),(B:Int),ar,c))):=by
         intro h
         rw [HT.out]
         unfold erT erL
         simp only [Int.toNat_natCast]
         rw [<- HX1.out,<- HX2.out,if_pos h,if_pos h]
       have HSn:Hid (¬(x1 <= d /\ ar<x2) -> ∀N,ErSt w (wa.drewN N) M1 M2 M3 g.lives.length (.slice (some ⟨rb,0,none⟩) rides.length cap) rides (erGo (er0 g (V:Int) t) (rides.take (k+1))).1 (erGo (er0 g (V:Int) t) (rides.take (k+1))).2):=by
         intro h N
         rw [HNo.out h]
         exact HSa.out.below (below_drewN (Below.refl _ _) N)
       clear hx1 hx2 HT HNo
       by_cases q1:x1 <= d
       · have d1:decide (x1 <= d)=true:=by simpa using q1
         by_cases q2:ar<x2
         · have d2:decide (ar<x2)=true:=by simpa using q2
           have HE2:=hideg (HYes.out ⟨q1,q2⟩)
           have hne1:wr.heap.size≠M1:=by have:=HS0.out.1;omega
           have hne2:wr.heap.size≠M2:=by have:=HS0.out.2;omega
           have HSet:=hideg (fun (W:World) (h:ErSt w W M1 M2 M3 g.lives.length (.slice (some ⟨rb,0,none⟩) rides.length cap) rides T L)=>h.set h12 h23 hB ar (E,d,(A:Int),(B:Int),ar,c))
           clear HSn HYes
           go_wp2_with fail
           go_quiet (fail)
           clear xa xb q1 q2 d1 d2 c0 c1 c2 c3 c4 c5
           go_wp2_with fail
           refine Go.wp_region_held (S:=fun w3=>w3.cell? ⟨wr.heap.size,0,none⟩=some (.int .i64 E) /\ w3.cell? ⟨wr.heap.size,1,none⟩=some (.int .i64 d) /\ w3.cell? ⟨wr.heap.size,2,none⟩=some (.int .i64 (A:Int)) /\ w3.cell? ⟨wr.heap.size,3,none⟩=some (.int .i64 (B:Int)) /\ w3.cell? ⟨wr.heap.size,4,none⟩=some (.int .i64 ar) /\ w3.cell? ⟨wr.heap.size,5,none⟩=some (.int .i64 c)) (by kernel_rfl) ?_
           generalize hw8:({wa.drewN nq with drawn:=(wa.drewN nq).drawn+1 }:World)=w8
           have S8:ErSt w w8 M1 M2 M3 g.lives.length (.slice (some ⟨rb,0,none⟩) rides.length cap) rides T L:=by rw [<- hw8];exact HSa.out.below (below_drewN (Below.refl _ _) (nq+1))
           have hS0:w8.cell? ⟨wr.heap.size,0,none⟩=some (.int .i64 E) /\ w8.cell? ⟨wr.heap.size,1,none⟩=some (.int .i64 d) /\ w8.cell? ⟨wr.heap.size,2,none⟩=some (.int .i64 (A:Int)) /\ w8.cell? ⟨wr.heap.size,3,none⟩=some (.int .i64 (B:Int)) /\ w8.cell? ⟨wr.heap.size,4,none⟩=some (.int .i64 ar) /\ w8.cell? ⟨wr.heap.size,5,none⟩=some (.int .i64 c):=by rw [<- hw8];exact ⟨y0,y1,y2,y3,y4,y5⟩
           clear hw8 y0 y1 y2 y3 y4 y5
           refine take_lit (i:=0) (v:= ?_) rfl (by kernel_rfl) (by kernel_rfl) (by kernel_rfl) (fun _ _ _ h=>h) (Or.inl ⟨by rfl,?hy0⟩) (by assumption) ?_
           case hy0=>(intro w hSw;(try dsimp only at hSw);go_simp;try with_reducible rfl)
           try simp only [Act.put,List.setIfInBounds_toArray,List.set_cons_zero,List.set_cons_succ]
           refine take_lit (i:=1) (v:= ?_) rfl (by kernel_rfl) (by kernel_rfl) (by kernel_rfl) (fun _ _ _ h=>h) (Or.inl ⟨by rfl,?hy1⟩) (by assumption) ?_
           case hy1=>(intro w hSw;(try dsimp only at hSw);go_simp;try with_reducible rfl)
           try simp only [Act.put,List.setIfInBounds_toArray,List.set_cons_zero,List.set_cons_succ]
           refine take_lit (i:=2) (v:= ?_) rfl (by kernel_rfl) (by kernel_rfl) (by kernel_rfl) (fun _ _ _ h=>h) (Or.inl ⟨by rfl,?hy2⟩) (by assumption) ?_
           case hy2=>(intro w hSw;(try dsimp only at hSw);go_simp;try with_reducible rfl)
           try simp only [Act.put,List.setIfInBounds_toArray,List.set_cons_zero,List.set_cons_succ]
           refine take_lit (i:=3) (v:= ?_) rfl (by kernel_rfl) (by kernel_rfl) (by kernel_rfl) (fun _ _ _ h=>h) (Or.inl ⟨by rfl,?hy3⟩) (by assumption) ?_
           case hy3=>(intro w hSw;(try dsimp only at hSw);go_simp;try with_reducible rfl)
           try simp only [Act.put,List.setIfInBounds_toArray,List.set_cons_zero,List.set_cons_succ]
           refine take_lit (i:=4) (v:= ?_) rfl (by kernel_rfl) (by kernel_rfl) (by kernel_rfl) (fun _ _ _ h=>h) (Or.inl ⟨by rfl,?hy4⟩) (by assumption) ?_
           case hy4=>(intro w hSw;(try dsimp only at hSw);go_simp;try with_reducible rfl)
           try simp only [Act.put,List.setIfInBounds_toArray,List.set_cons_zero,List.set_cons_succ]
           refine take_lit (i:=5) (v:= ?_) rfl (by kernel_rfl) (by kernel_rfl) (by kernel_rfl) (fun _ _ _ h=>h) (Or.inl ⟨by rfl,?hy5⟩) (by assumption) ?_
           case hy5=>(intro w hSw;(try dsimp only at hSw);go_simp;try with_reducible rfl)
           try simp only [Act.put,List.setIfInBounds_toArray,List.set_cons_zero,List.set_cons_succ]
           refine take_lit (i:=6) (v:= ?_) rfl (by kernel_rfl) (by kernel_rfl) (by kernel_rfl) (fun _ _ _ h=>h) (Or.inl ⟨by rfl,?hy6⟩) (by assumption) ?_
           case hy6=>(intro w hSw;(try dsimp only at hSw);go_simp;try with_reducible rfl)
           try simp only [Act.put,List.setIfInBounds_toArray,List.set_cons_zero,List.set_cons_succ]
           refine take_lit (i:=7) (v:= ?_) rfl (by kernel_rfl) (by kernel_rfl) (by kernel_rfl) (fun _ _ _ h=>h) (Or.inl ⟨by rfl,?hy7⟩) (by assumption) ?_
           case hy7=>(intro w hSw;(try dsimp only at hSw);go_simp;try with_reducible rfl)
           try simp only [Act.put,List.setIfInBounds_toArray,List.set_cons_zero,List.set_cons_succ]
           refine take_lit (i:=8) (v:= ?_) rfl (by kernel_rfl) (by kernel_rfl) (by kernel_rfl) (fun _ _ _ h=>h) (Or.inl ⟨by rfl,?hy8⟩) (by assumption) ?_
           case hy8=>(intro w hSw;(try dsimp only at hSw);go_simp;try with_reducible rfl)
           try simp only [Act.put,List.setIfInBounds_toArray,List.set_cons_zero,List.set_cons_succ]
           refine take_lit (i:=9) (v:= ?_) rfl (by kernel_rfl) (by kernel_rfl) (by kernel_rfl) (fun _ _ _ h=>h) (Or.inl ⟨by rfl,?hy9⟩) (by assumption) ?_
           case hy9=>(intro w hSw;(try dsimp only at hSw);go_simp;try with_reducible rfl)
           try simp only [Act.put,List.setIfInBounds_toArray,List.set_cons_zero,List.set_cons_succ]
           refine next_lit (i:=10) rfl (by kernel_rfl) (fun K hK=> ?_)
           have fB:=World.ownsRow.frozenAt S8.t B
           have xB:=Zo.cell S8.t hB
           go_simp
           have hS9:(w8.setCell ⟨M1,B,none⟩ (.int .i64 ar)).cell? ⟨wr.heap.size,0,none⟩=some (.int .i64 E) /\ (w8.setCell ⟨M1,B,none⟩ (.int .i64 ar)).cell? ⟨wr.heap.size,1,none⟩=some (.int .i64 d) /\ (w8.setCell ⟨M1,B,none⟩ (.int .i64 ar)).cell? ⟨wr.heap.size,2,none⟩=some (.int .i64 (A:Int)) /\ (w8.setCell ⟨M1,B,none⟩ (.int .i64 ar)).cell? ⟨wr.heap.size,3,none⟩=some (.int .i64 (B:Int)) /\ (w8.setCell ⟨M1,B,none⟩ (.int .i64 ar)).cell? ⟨wr.heap.size,4,none⟩=some (.int .i64 ar) /\ (w8.setCell ⟨M1,B,none⟩ (.int .i64 ar)).cell? ⟨wr.heap.size,5,none⟩=some (.int .i64 c):=by
             rw [cellFar hne1,cellFar hne1,cellFar hne1,cellFar hne1,cellFar hne1,cellFar hne1];exact hS0
           refine hK.out _ _ hS9 (fun _=> ?_)
           clear hK K fB xB
           try simp only [Act.put,List.setIfInBounds_toArray,List.set_cons_zero,List.set_cons_succ]
           refine take_lit (i:=11) (v:= ?_) rfl (by kernel_rfl) (by kernel_rfl) (by kernel_rfl) (fun _ _ _ h=>h) (Or.inl ⟨by rfl,?hy11⟩) (by assumption) ?_
           case hy11=>(intro w hSw;(try dsimp only at hSw);go_simp;try with_reducible rfl)
           try simp only [Act.put,List.setIfInBounds_toArray,List.set_cons_zero,List.set_cons_succ]
           refine next_lit (i:=12) rfl (by kernel_rfl) (fun K hK=> ?_)
           have l9:=ownsRow_setCell_other S8.l (a:=⟨M1,B,none⟩) (by simp [Value.ownBlock];omega) (.int .i64 ar)
           have l5:=Ro.one l9 hB
           have fL:=fun j=>World.ownsRow.frozenAt l9 j
           have z0:=l5.c0
           have z1:=l5.c1
           have z2:=l5.c2
           have z3:=l5.c3
           have z4:=l5.c4
           have z5:=l5.c5
           have hS10:=HSet.out _ S8
           clear l5 l9
           unfold setR at hS10
           simp only at hS10
           generalize w8.setCell ⟨M1,B,none⟩ (.int .i64 ar)=w9 at*
           go_simp
           refine hK.out _ _ (by simp only [cellFar hne2];exact hS9) (fun _=> ?_)
           clear hK K z0 z1 z2 z3 z4 z5 fL hS0 hS9
           refine wpAnyH_done (by kernel_rfl) ?_ _
           generalize (((((w9.setCell ⟨M2,B*6,none⟩ (.int .i64 E)).setCell ⟨M2,B*6+1,none⟩ (.int .i64 d)).setCell ⟨M2,B*6+2,none⟩ (.int .i64 (A:Int))).setCell ⟨M2,B*6+3,none⟩ (.int .i64 (B:Int))).setCell ⟨M2,B*6+4,none⟩ (.int .i64 ar)).setCell ⟨M2,B*6+5,none⟩ (.int .i64 c)=w10 at*
           have HS10:Hid (ErSt w w10 M1 M2 M3 g.lives.length (.slice (some ⟨rb,0,none⟩) rides.length cap) rides (erGo (er0 g (V:Int) t) (rides.take (k+1))).1 (erGo (er0 g (V:Int) t) (rides.take (k+1))).2):=by rw [HE2.out];exact hS10
           clear hS10 S8 HE2
           go_wp2
           go_roundw
           case rel=>exact ⟨k+1,by omega,by go_num,HS10.out⟩
           case measure=>simp [intOf];omega
         · have d2:decide (ar<x2)=false:=by simpa using q2
           have HS2:=hideg (HSn.out (fun h=>q2 h.2))
           clear HSn HYes
           go_wp2_with fail
           go_quiet (fail)
           clear xa xb c0 c1 c2 c3 c4 c5 y0 y1 y2 y3 y4 y5 hwas q1 q2 d1 d2
           go_wp2
           go_roundw
           case rel=>exact ⟨k+1,by omega,by go_num,HS2.out _⟩
           case measure=>simp [intOf];omega
       · have d1:decide (x1 <= d)=false:=by simpa using q1
         have HS2:=hideg (HSn.out (fun h=>q1 h.1))
         clear HSn HYes
         go_wp2_with fail
         go_quiet (fail)
         clear xa xb c0 c1 c2 c3 c4 c5 y0 y1 y2 y3 y4 y5 hwas q1 d1
         go_wp2
         go_roundw
         case rel=>exact ⟨k+1,by omega,by go_num,HS2.out _⟩
         case measure=>simp [intOf];omega
     · have hke:rides.length=k:=by omega
       subst hke
       rw [List.take_length,<- HE.out] at S
       have HS:=hideg S
       clear S
       go_wp2
       (try simp only [Exit.inBlock,Exit.then]);refine bodyPost_ret (results_two_e rfl _ _ _) rfl ?_
       exact ⟨_,_,rfl,HS.out.t,HS.out.l,HS.out.b⟩
end Go.Proofs.YtfphigmeppdocaaGreat.Q
