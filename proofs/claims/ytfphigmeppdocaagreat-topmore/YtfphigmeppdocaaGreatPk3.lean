/-
  Several texts in one.
-/
import Derived.Conc.WgGenN3
import Derived.Test.YtfphigmeppdocaaGreatProg
import Derived.Test.YtfphigmeppdocaaGreatPk2
namespace Go.Proofs.YtfphigmeppdocaaGreat
namespace Crw
open Go.Conc Go.ConcN
open Go.ConcR (KK wgBlock WgAt stA smA rd wr mk Payload DC0 Bk g_of_ofEvents again_blocked bk_of_mute ofEvent_loc_mark ofEvent_cell)
theorem okS_of_Bk {SB:Nat→Prop} {Wg:Nat} {k:Nat} {Own Rd:Nat→Loc→Prop} (hW:SB Wg) {fn:FuncId} {pos:String} {es:Array Event} (h:∀e∈es,Bk Wg e):∀op∈MemOp.ofEvents k fn pos es,OkW (ShS SB) Own Rd k op∧(∀x,op.act.touch? =some x→ShS SB x.loc)∧∀B,Wg<B→lowT B op.act:=by
 intro op hop
 obtain ⟨e,he,rfl⟩:=Go.Conc.mem_ofEvents hop
 rcases h e he with h1 | h1 | ⟨a,wr,rfl,ha⟩
 · exact ⟨⟨rfl,fun x hx=>by simp only [ofEvent_loc_mark h1] at hx;cases hx⟩,(fun x hx=>by simp only [ofEvent_loc_mark h1] at hx;cases hx),(fun B _ x hx=>by simp only [ofEvent_loc_mark h1] at hx;cases hx)⟩
 · exact ⟨⟨rfl,fun x hx=>by simp only [ofEvent_loc_mark h1] at hx;cases hx⟩,(fun x hx=>by simp only [ofEvent_loc_mark h1] at hx;cases hx),(fun B _ x hx=>by simp only [ofEvent_loc_mark h1] at hx;cases hx)⟩
 · refine ⟨⟨rfl,fun x hx=> ?_⟩,fun x hx=> ?_,fun B hB x hx=> ?_⟩<;>simp only [ofEvent_cell,MemAct.touch?,Option.some.injEq] at hx<;>subst hx
   · exact .inl ⟨⟨a,rfl,by rw [ha];exact hW⟩,by simp,by simp⟩
   · exact ⟨a,rfl,by rw [ha];exact hW⟩
   · show a.block<B
     omega
section
variable [Payload]
section
variable (P:Program) {SB:Nat→Prop} (ty:TypeId) (Wg:Nat) {C Low:Nat} (W:WSpec P SB ty Wg C Low) (base T0:Nat) (w0:World) (AnchW:Goroutine→World→Prop) (Out:Goroutine→Prop) (o0:Obj) (o1:Obj) (v1:Value)
def PInv (N:Nat) (Y:Stt W.X) (F:Nat) (m:Machine) (t:Trace):Prop:=
 ∃(gs:Array Goroutine) (w:World) (sl:Option (Nat×Nat)) (j:Nat) (D:Nat→WD) (tag:CTag) (f0 d0:Nat) (nbo:Option Obj) (a:Goroutine) (st sm:Int) (q:Nat→Nat),
   m=crowd gs w sl∧gs[0]? =some a∧CS P ty Wg AnchW Out W w0 o0 o1 v1 tag j f0 d0 nbo a w∧PI P ty Wg W base T0 w0 gs w t j (D 0) Y q d0 nbo∧WgAt ty Wg w st sm∧Go.ConcN.Mode j D tag st sm∧
   (j=0→∃v,Y= .done v)∧N=phi 1 (Vc j D) tag+Ssum j D∧F=f0+2*(Fsum j D+sumTo (base+1) q)
def Less (N' :Nat) (Y' :Stt W.X) (F' N:Nat) (Y:Stt W.X) (F:Nat):Prop:=N' <N∨(N' =N∧Stt.lt W.lt Y' Y)∨(N' =N∧Y' =Y∧F' <F)
def Nx (N:Nat) (Y:Stt W.X) (F:Nat) (m:Machine) (i:Nat) (t:Trace):Prop:=
 ∃m₁ ops N' Y' F',runT P m i=(.next m₁,ops)∧Less P ty Wg W N' Y' F' N Y F∧PInv P ty Wg W base T0 w0 AnchW Out o0 o1 v1 N' Y' F' m₁ (t++ops)
end
section
variable {P:Program} {SB:Nat→Prop} {ty:TypeId} {Wg C Low:Nat} {W:WSpec P SB ty Wg C Low} {base T0:Nat} {w0:World} {AnchW:Goroutine→World→Prop} {Out:Goroutine→Prop} {o0:Obj} {o1:Obj} {v1:Value}
 {gs:Array Goroutine} {w w' :World} {sl:Option (Nat×Nat)} {t:Trace} {j:Nat} {D:Nat→WD} {Y:Stt W.X} {q:Nat→Nat} {f0 d0:Nat} {nbo:Option Obj} {tag:CTag} {a:Goroutine} {st sm:Int}
theorem wNx (hAr:∀g w,AnchW g w→g.status= .running) (ha:gs[0]? =some a) (hcs:(CS P ty Wg AnchW Out W w0 o0 o1 v1) tag j f0 d0 nbo a w) (hpi:(PI P ty Wg W base T0 w0) gs w t j (D 0) Y q d0 nbo)
   (hi:0<j) {g g' :Goroutine} {es:Array Event} {d' :WD} {y' :Stt W.X} {st' sm' :Int} (hg:gs[base+1]? =some g) (hgo:stepG P false g w= .go g' w' es)
   (hout:w'.os=w.os∧w'.output=w.output∧w'.tape=w.tape) (hsize:w.heap.size≤w'.heap.size)
   (hs' :WS P ty Wg W d' y' g' w') (hfin:∀v,y' = .done v→W.Fin v w' ∧(d'.stage≤6→Has C 0 v w'))
   (hok:∀op∈MemOp.ofEvents (base+1) g.frame.fn g.frame.place es,OkW (ShS SB) (OwnF base SB) noP (base+1) op)
   (hlow:∀op∈MemOp.ofEvents (base+1) g.frame.fn g.frame.place es,lowT w'.heap.size op.act)
   (hnr:∀e∈es,e.loc≠ .mark (.release (stA Wg))) (hdeaf:deafBehind (D 0).deaf es=d'.deaf)
   (hrel:d'.stage≤6→∃r,T0≤r∧Rel (ShS SB) (stA Wg) (t++MemOp.ofEvents (base+1) g.frame.fn g.frame.place es) (base+1) r)
   (hwg:WgAt ty Wg w' st' sm') (hmode:∀tag',(tag' =tag∨(tag= .blk∧tag' = .w3))→(mayWake P g=true→g'.status= .running→tag' ≠ .blk)→Go.ConcN.Mode j (upd D 0 d') tag' st' sm')
   (hlt:(d'.stage<(D 0).stage∧cnt d' ≤cnt (D 0))∨(d'.stage=(D 0).stage∧Stt.lt W.lt y' Y)∨(d'.stage=(D 0).stage∧y' =Y∧d'.fuel+1=(D 0).fuel)):
   (Nx P ty Wg W base T0 w0 AnchW Out o0 o1 v1) (phi 1 (Vc j D) tag+Ssum j D) Y (f0+2*(Fsum j D+sumTo (base+1) q)) (crowd gs w sl) (base+1) t:=by
 obtain ⟨tag',f',hcs',hf',htag,hwk⟩:=hcs.wokenBy hAr (w':=w') (fun _=>⟨_,_,hwg⟩) g g'
 have hi0:(base+1==0)=false:=by simp
 have hrun:=runT_crowd_go (P:=P) (sl:=sl) (i:=base+1) hg (by rw [hi0];exact hgo)
 have e1:=sumTo_upd D d' cnt hi
 have e2:=sumTo_upd D d' WD.stage hi
 have e3:=sumTo_upd D d' WD.fuel hi
 have hb:=hcs.bound
 have hj:j=1:=by omega
 have hpi':=hpi.stepW (g:=g) hj hout hsize hs' hfin hok hlow hnr hdeaf hrel
 refine ⟨_,_,phi 1 (Vc j (upd D 0 d')) tag' +Ssum j (upd D 0 d'),y',f' +2*(Fsum j (upd D 0 d')+sumTo (base+1) q),hrun,?_,
   _,w',sl,j,upd D 0 d',tag',f',d0,nbo,woken P g g' w' a,st',sm',q,rfl,by rw [get_map_set _ _ _ _ (by omega),ha];rfl,hcs',
   by rw [upd_same];exact hpi',hwg,hmode tag' htag hwk,fun h=>by omega,rfl,rfl⟩
 rw [phi_retag 1 _ htag]
 simp only [Vc,Ssum,Fsum] at*
 have hc:d'.stage=(D 0).stage→cnt d' =cnt (D 0):=fun e=>by simp only [cnt,e]
 rcases hlt with ⟨h1,h2⟩ | ⟨h1,h2⟩ | ⟨h1,h2,h3⟩
 · refine .inl ?_
   have:=phi_mono 1 (v':=sumTo j fun a=>cnt (upd D 0 d' a)) (v:=sumTo j fun a=>cnt (D a)) (by omega) tag
   omega
 · have:=hc h1
   refine .inr (.inl ⟨?_,h2⟩)
   rw [show (sumTo j fun a=>cnt (upd D 0 d' a))=sumTo j fun a=>cnt (D a) by omega,show (sumTo j fun a=>(upd D 0 d' a).stage)=sumTo j fun a=>(D a).stage by omega]
 · have:=hc h1
   refine .inr (.inr ⟨?_,h2,by omega⟩)
   rw [show (sumTo j fun a=>cnt (upd D 0 d' a))=sumTo j fun a=>cnt (D a) by omega,show (sumTo j fun a=>(upd D 0 d' a).stage)=sumTo j fun a=>(D a).stage by omega]
set_option maxHeartbeats 1600000 in
theorem stepWorker (G:Geom SB Wg C Low) (hAr:∀g w,AnchW g w→g.status= .running) (ha:gs[0]? =some a) (hcs:(CS P ty Wg AnchW Out W w0 o0 o1 v1) tag j f0 d0 nbo a w) (hpi:(PI P ty Wg W base T0 w0) gs w t j (D 0) Y q d0 nbo) (hwg:WgAt ty Wg w st sm) (hmode:Go.ConcN.Mode j D tag st sm)
   (hi:0<j) {g:Goroutine} (hg:gs[base+1]? =some g) (hrun:g.status= .running):
   (Nx P ty Wg W base T0 w0 AnchW Out o0 o1 v1) (phi 1 (Vc j D) tag+Ssum j D) Y (f0+2*(Fsum j D+sumTo (base+1) q)) (crowd gs w sl) (base+1) t:=by
 have hj:j=1:=by have:=hpi.le;omega
 obtain ⟨g₁,hg₁,hs⟩:=hpi.wk hj
 obtain rfl:g=g₁:=by rw [hg] at hg₁;exact Option.some.inj hg₁
 have hb:=hcs.bound
 have hVj:=Vc_le j D
 have hlo:=hpi.lo
 have hWs:Wg<w.heap.size:=Nat.lt_of_lt_of_le G.hW hlo
 have hdk:Deaf t (base+1)=(D 0).deaf:=hpi.deafW hj
 obtain ⟨y,hY⟩:∃y,Y=y:=⟨Y,rfl⟩
 rw [hY] at hs
 cases hs with
 | @work x _ _ h7 hd0 hsit=>
   obtain ⟨g',w',es,hgo,hE,hev,hnext⟩:=W.go hsit ⟨st,sm,hwg⟩
   have hok:∀op∈MemOp.ofEvents (base+1) g.frame.fn g.frame.place es,OkW (ShS SB) (OwnF base SB) noP (base+1) op:=by
     intro op hop
     obtain ⟨e,he,rfl⟩:=Go.Conc.mem_ofEvents hop
     exact ⟨rfl,fun x hx=> .inr (.inl ⟨rfl,(hev e he).tch x hx⟩)⟩
   have hlow:∀op∈MemOp.ofEvents (base+1) g.frame.fn g.frame.place es,lowT w'.heap.size op.act:=by
     intro op hop
     obtain ⟨e,he,rfl⟩:=Go.Conc.mem_ofEvents hop
     exact (hev e he).low
   have hde:deafBehind (D 0).deaf es=0:=by rw [hd0];exact deafBehind_idle (fun e he=>⟨(hev e he).dis,(hev e he).en⟩) 0
   have hmd:∀m' tag',(tag' =tag∨(tag= .blk∧tag' = .w3))→Go.ConcN.Mode j (upd D 0 ⟨7,m',0⟩) tag' st sm:=fun m' tag' ht=>Go.ConcN.Mode.retag (by have:=hmode.same (i:=0) m' 0;rwa [h7] at this) ht
   rcases hnext with ⟨x',hlt,hs'⟩ | ⟨v,m,hfin,hgoes⟩
   · exact wNx hAr ha hcs hpi hi (d':=⟨7,0,0⟩) (y':= .at_ x') hg hgo hE.out hE.size (.work rfl rfl hs') (fun v e=>by cases e) hok hlow (fun e he=>(hev e he).rel) hde (fun h=>absurd h (by simp)) (hwg.of_block hE.wg) (fun tag' ht _=>hmd 0 tag' ht)
       (.inr (.inl ⟨h7.symm,by rw [hY];exact hlt⟩))
   · exact wNx hAr ha hcs hpi hi (d':=⟨7,m,0⟩) (y':= .done v) hg hgo hE.out hE.size (.done (.r0 hgoes)) (fun v' e=>by cases e;exact ⟨hfin,fun h=>absurd h (by simp)⟩) hok hlow (fun e he=>(hev e he).rel) hde (fun h=>absurd h (by simp)) (hwg.of_block hE.wg) (fun tag' ht _=>hmd m tag' ht)
       (.inr (.inl ⟨h7.symm,by rw [hY];trivial⟩))
 | @done v _ _ hsit=>
   obtain ⟨hfin,hhas⟩:=hpi.fin v hj hY
   generalize hst:(D 0).stage=s at hsit
   generalize hfu:(D 0).fuel=m at hsit
   generalize hdd:(D 0).deaf=dd at hsit
   rw [hdd] at hdk
   have bookG:∀{g' :Goroutine} {w' :World} {es:Array Event} {s' m' dd' :Nat} {st' sm' :Int},stepG P false g w= .go g' w' es→Aside Wg w w' →WgAt ty Wg w' st' sm' →(∀e∈es,Bk Wg e)→
       (∀jx e,es[jx]? =some e→(MemAct.ofEvent e).touch? =none∨0<deafBehind dd (es.extract 0 jx))→WSit P ty Wg C 1 noP noP Low 1 v s' m' dd' g' w' →deafBehind dd es=dd' →s≤6→s' ≤6→
       (∀tag',(tag' =tag∨(tag= .blk∧tag' = .w3))→(mayWake P g=true→g'.status= .running→tag' ≠ .blk)→Go.ConcN.Mode j (upd D 0 ⟨s',m',dd'⟩) tag' st' sm')→((s' <s∧cnt ⟨s',m',dd'⟩≤cnt (D 0))∨(s' =s∧m' +1=m))→
       (Nx P ty Wg W base T0 w0 AnchW Out o0 o1 v1) (phi 1 (Vc j D) tag+Ssum j D) Y (f0+2*(Fsum j D+sumTo (base+1) q)) (crowd gs w sl) (base+1) t:=by
     intro g' w' es s' m' dd' st' sm' hgo hAs hwg' hbk hd hs' hde h6 h6' hmode' hlt
     have hst' :Stay Wg w w':=⟨fun b h1=>hAs.block b h1,hAs.size⟩
     refine wNx hAr ha hcs hpi hi (d':=⟨s',m',dd'⟩) (y':= .done v) hg hgo ⟨hAs.os,hAs.output,hAs.tape⟩ (by rw [hAs.size];exact Nat.le_refl _) (.done hs') (fun v' e=> ?_) (fun op hop=>(okS_of_Bk G.sbW hbk op hop).1) (fun op hop=>(okS_of_Bk (Own:=noP) (Rd:=noP) G.sbW hbk op hop).2.2 _ (by rw [hAs.size];exact hWs)) (norel_of_Bk hbk) (by rw [hdd];exact hde) (fun _=> ?_) hwg' hmode' ?_
     · cases e
       exact ⟨W.fins hfin (hst'.c G.hCW),fun _=>(cell_of_block (hAs.block C G.hCW) 0).trans (hhas (by omega))⟩
     · obtain ⟨r,hr0,hr⟩:=hpi.rel hj (by omega)
       exact ⟨r,hr0,hr.app (hr.by_.book hdk _ _ hbk hd) fun op hop _ x hx=>(okS_of_Bk (Own:=noP) (Rd:=noP) G.sbW hbk op hop).2.1 x hx⟩
     · rcases hlt with ⟨h1,h2⟩ | ⟨h1,h2⟩
       · exact .inl ⟨by rw [hst];exact h1,h2⟩
       · exact .inr (.inr ⟨by rw [hst];exact h1,hY.symm,by rw [hfu];exact h2⟩)
   have book:∀{g' :Goroutine} {w' :World} {es:Array Event} {s' m' dd' :Nat} {st' sm' :Int},stepG P false g w= .go g' w' es→Aside Wg w w' →WgAt ty Wg w' st' sm' →(∀e∈es,Bk Wg e)→
       (∀jx e,es[jx]? =some e→(MemAct.ofEvent e).touch? =none∨0<deafBehind dd (es.extract 0 jx))→WSit P ty Wg C 1 noP noP Low 1 v s' m' dd' g' w' →deafBehind dd es=dd' →s≤6→s' ≤6→
       Go.ConcN.Mode j (upd D 0 ⟨s',m',dd'⟩) tag st' sm' →((s' <s∧cnt ⟨s',m',dd'⟩≤cnt (D 0))∨(s' =s∧m' +1=m))→
       (Nx P ty Wg W base T0 w0 AnchW Out o0 o1 v1) (phi 1 (Vc j D) tag+Ssum j D) Y (f0+2*(Fsum j D+sumTo (base+1) q)) (crowd gs w sl) (base+1) t:=
     fun hgo hAs hwg' hbk hd hs' hde h6 h6' hmode' hlt=>bookG hgo hAs hwg' hbk hd hs' hde h6 h6' (fun _ ht _=>hmode'.retag ht) hlt
   have idle:∀{g' :Goroutine} {m' :Nat},stepG P false g w= .go g' w #[]→WSit P ty Wg C 1 noP noP Low 1 v s m' dd g' w→m' +1=m→s≤6→
       (Nx P ty Wg W base T0 w0 AnchW Out o0 o1 v1) (phi 1 (Vc j D) tag+Ssum j D) Y (f0+2*(Fsum j D+sumTo (base+1) q)) (crowd gs w sl) (base+1) t:=by
     intro g' m' hgo hs' hm h6
     exact book hgo (.refl Wg w) hwg (by simp) (by simp) hs' rfl h6 h6 (by have:=hmode.same (i:=0) m' dd;rwa [hst] at this) (.inr ⟨rfl,hm⟩)
   cases hsit with
   | r0 h=>
     rcases Goes.cases h with hstop | ⟨m',rfl,hstep⟩
     · obtain ⟨_,hhas',g',hgo,m₂,hk⟩:=hstop w (RW.refl w)
       refine wNx hAr ha hcs hpi hi (d':=⟨6,m₂,0⟩) (y':= .done v) hg hgo ⟨rfl,rfl,rfl⟩ (Nat.le_refl _) (.done (.k1 hk)) (fun v' e=> ?_) (fun op hop=> ?_) (fun op hop=> ?_) (by intro e he;simp at he;subst he;simp [mk]) (by rw [hdd];rfl) (fun _=> ?_) hwg
         (fun _ ht _=>(hmode.counted hi (by omega) (.inl rfl) _ _).retag ht) (.inl ⟨by rw [hst];simp,by simp [cnt,hst]⟩)
       · cases e
         exact ⟨hfin,fun _=>by simpa using hhas'⟩
       · obtain ⟨e,he,rfl⟩:=Go.Conc.mem_ofEvents hop
         simp at he;subst he
         exact ⟨rfl,fun x hx=>by cases hx⟩
       · obtain ⟨e,he,rfl⟩:=Go.Conc.mem_ofEvents hop
         simp at he;subst he
         exact fun x hx=>by cases hx
       · refine ⟨t.size,hpi.tsz,RelBy.new hdk _ _,fun i1 x1 hi1 _ hx1=> ?_⟩
         obtain ⟨op,ho,hox⟩:=touch_op hx1
         rcases getElem?_append_cases ho with ⟨hlt,_⟩ | ⟨_,hou⟩
         · omega
         · obtain ⟨e,he,rfl⟩:=Go.Conc.mem_ofEvents hou
           simp at he;subst he
           cases hox
     · obtain ⟨g',w',es,hgo,⟨hac,hev⟩,hg'⟩:=hstep w (RW.refl w)
       simp only [Nat.sub_self] at hac
       have hst' :StayC Wg C w w':=⟨fun b _ h1=>hac.block b h1,hac.size,hac.pay⟩
       have hevt:∀e∈es,∀x,(MemAct.ofEvent e).touch? =some x→ShN Wg x.loc∧x.kind≠ .plain∧x.kind≠ .said:=fun e he x hx=>by
         rcases ((hev e he).1 0 "").2 x hx with h1 | h1 | ⟨h1, _⟩
         · exact h1
         · exact h1.elim
         · exact h1.elim
       refine wNx hAr ha hcs hpi hi (d':=⟨7,m',0⟩) (y':= .done v) hg hgo ⟨hac.os,hac.output,hac.tape⟩ (by rw [hac.size];exact Nat.le_refl _) (.done (.r0 hg')) (fun v' e=> ?_) (fun op hop=> ?_) (fun op hop=> ?_) (fun e he=>(hev e he).2.2.2)
         (by rw [hdd];exact deafBehind_idle (fun e he=>⟨(hev e he).2.1,(hev e he).2.2.1⟩) 0) (fun h=>absurd h (by simp)) (hwg.of_block (hac.block Wg (Ne.symm G.hCW))) (fun _ ht _=>Go.ConcN.Mode.retag (by have:=hmode.same (i:=0) m' 0;rwa [hst] at this) ht) (.inr (.inr ⟨hst.symm,hY.symm,by rw [hfu]⟩))
       · cases e
         exact ⟨W.fins hfin hst',fun h=>absurd h (by simp)⟩
       · obtain ⟨e,he,rfl⟩:=Go.Conc.mem_ofEvents hop
         refine ⟨rfl,fun x hx=> ?_⟩
         obtain ⟨⟨a1,h1,h2⟩,h3⟩:=hevt e he x hx
         exact .inl ⟨⟨a1,h1,by rw [h2];exact G.sbW⟩,h3⟩
       · obtain ⟨e,he,rfl⟩:=Go.Conc.mem_ofEvents hop
         intro x hx
         obtain ⟨⟨a1,h1,h2⟩,h3⟩:=hevt e he x hx
         rw [h1]
         show a1.block<_
         rw [h2,hac.size];exact hWs
   | k1 h=>
     rcases Goes.cases h with hstop | ⟨m',rfl,hstep⟩
     · obtain ⟨_,g',hgo,m₂,hk⟩:=hstop w (RW.refl w)
       exact book hgo (.refl Wg w) hwg bk_dis (by intro jx e he;exact .inl (by have:=Array.mem_of_getElem? he;simp at this;subst this;rfl)) (.d1 hk) rfl (by omega) (by omega)
         (hmode.counted hi (by omega) (.inr rfl) _ _) (.inl ⟨by omega,by simp [cnt,hst]⟩)
     · obtain ⟨g',w',es,hgo,⟨rfl,rfl⟩,hg'⟩:=hstep w (RW.refl w)
       exact idle hgo (.k1 hg') rfl (by omega)
   | d1 h=>
     rcases Goes.cases h with hstop | ⟨m',rfl,hstep⟩
     · obtain ⟨_,hall⟩:=hstop w (RW.refl w)
       have hc1:cnt (D 0)=1:=by simp [cnt,hst]
       have hV1:1≤Vc j D:=by have:=le_sumTo (f:=fun x=>cnt (D x)) hi;simp only [Vc];omega
       have df2:∀jx e,(#[rd (stA Wg),wr (stA Wg)]:Array Event)[jx]? =some e→(MemAct.ofEvent e).touch? =none∨0<deafBehind 1 ((#[rd (stA Wg),wr (stA Wg)]:Array Event).extract 0 jx):=by
         intro jx e he
         match jx,he with
         | 0,_=>exact .inr (by simp [deafBehind])
         | 1,_=>exact .inr (by simp [deafBehind,rd])
         | jx+2,he=>simp at he
       have hq0:∀q,cnt (⟨1,q,1⟩:WD)=0:=fun _=>rfl
       have opq:∀q,OpenSt j D→OpenSt j (upd D 0 ⟨1,q,1⟩):=fun q h a ha=>by
         by_cases e:a=0
         · subst e;rw [upd_same];simp
         · rw [upd_ne D _ e];exact h a ha
       have hnn:(1:Nat)=1:=rfl
       cases hmode with
       | opn h1 h2 h3=>
         obtain ⟨v,hv⟩:∃v,Vc j D+pend tag=v+1:=⟨Vc j D+pend tag- 1,by omega⟩
         rw [hv] at hwg
         have hw1:WgAt ty Wg w (((v:Nat)+1)*KK+((0:Nat):Int)) 0:=by simpa using hwg
         obtain ⟨g',hgo,_,hq⟩:=hall v 0 (by omega) (by omega) hw1
         obtain ⟨q,hq⟩:=hq (by omega)
         have hv' :Vc j (upd D 0 ⟨1,q,1⟩)+pend tag=v:=by have:=Vc_upd D (⟨1,q,1⟩:WD) hi;have:=hq0 q;omega
         refine book hgo (aside_setCell w (stA Wg) _) (hwg.setSt _) bk_rw df2 (.quit hq) rfl (by omega) (by omega) ?_ (.inl ⟨by omega,by simp [cnt]⟩)
         have e:((v:Nat):Int)*KK+((0:Nat):Int)=((Vc j (upd D 0 ⟨1,q,1⟩)+pend tag:Nat):Int)*KK:=by rw [hv'];simp
         rw [e]
         exact .opn h1 (opq q h2) (fun vs ev=>by have:=h3 vs ev;omega)
       | reg h1 h2 h3=>
         obtain ⟨v,hv⟩:∃v,Vc j D=v+1:=⟨Vc j D- 1,by omega⟩
         rw [hv] at hwg
         have hp:pend tag=0:=by cases tag<;>first | rfl | exact h1.elim
         have hw1:WgAt ty Wg w (((v:Nat)+1)*KK+((1:Nat):Int)) 0:=by simpa using hwg
         obtain ⟨g',hgo,hl,hq⟩:=hall v 1 (by omega) (by omega) hw1
         by_cases hv0:v=0
         · subst hv0
           obtain ⟨m₂,hk⟩:=hl ⟨rfl,rfl⟩
           refine book hgo (aside_setCell w (stA Wg) _) (hwg.setSt _) bk_rw df2 (.d2 hk) rfl (by omega) (by omega) ?_ (.inl ⟨by omega,by simp [cnt]⟩)
           have hoth:∀a,a<j→a≠0→(D a).stage=1:=fun a ha e=>by
             have c0:=others_uncounted hi hv hc1 a ha e
             have:=h2 a ha
             simp only [cnt] at c0
             split at c0<;>omega
           have:=Go.ConcN.Mode.last (j:=j) (D:=upd D 0 ⟨4,m₂,1⟩) (tag:=tag) 0 h1 hi (by rw [upd_same];simp) (fun a ha e=>by rw [upd_ne D _ e];exact hoth a ha e)
           rw [upd_same] at this
           simpa using this
         · obtain ⟨q,hq⟩:=hq (by omega)
           have hv' :Vc j (upd D 0 ⟨1,q,1⟩)=v:=by have:=Vc_upd D (⟨1,q,1⟩:WD) hi;have:=hq0 q;omega
           refine book hgo (aside_setCell w (stA Wg) _) (hwg.setSt _) bk_rw df2 (.quit hq) rfl (by omega) (by omega) ?_ (.inl ⟨by omega,by simp [cnt]⟩)
           have e:((v:Nat):Int)*KK+((1:Nat):Int)=((Vc j (upd D 0 ⟨1,q,1⟩):Nat):Int)*KK+1:=by rw [hv'];simp
           rw [e]
           exact .reg h1 (opq q h2) (by omega)
       | last L _ h2 h3 h4=>
         by_cases e:0=L
         · subst e;omega
         · have:=h4 0 hi e;omega
       | sema h2=>have:=h2 0 hi;omega
       | fin _ h2=>have:=h2 0 hi;omega
     · obtain ⟨g',w',es,hgo,⟨rfl,rfl⟩,hg'⟩:=hstep w (RW.refl w)
       exact idle hgo (.d1 hg') rfl (by omega)
   | d2 h=>
     rcases Goes.cases h with hstop | ⟨m',rfl,hstep⟩
     · obtain ⟨_,hx⟩:=hstop w (RW.refl w)
       obtain ⟨hW3,hoth,rfl,rfl⟩:=hmode.isLast hi (by omega)
       simp only [hst] at hwg
       obtain ⟨g',hgo,m₂,hk⟩:=hx (by simpa using hwg)
       refine book hgo (.refl Wg w) hwg bk_rd (by intro jx e he;match jx,he with | 0,_=>exact .inr (by simp [deafBehind]) | jx+1,he=>simp at he) (.d3 hk) rfl (by omega) (by omega) ?_ (.inl ⟨by omega,by simp [cnt]⟩)
       have:=Go.ConcN.Mode.last (j:=j) (D:=upd D 0 ⟨3,m₂,1⟩) (tag:=tag) 0 hW3 hi (by rw [upd_same];simp) (fun a ha e=>by rw [upd_ne D _ e];exact hoth a ha e)
       rw [upd_same] at this
       simpa using this
     · obtain ⟨g',w',es,hgo,⟨rfl,rfl⟩,hg'⟩:=hstep w (RW.refl w)
       exact idle hgo (.d2 hg') rfl (by omega)
   | d3 h=>
     rcases Goes.cases h with hstop | ⟨m',rfl,hstep⟩
     · obtain ⟨_,hx⟩:=hstop w (RW.refl w)
       obtain ⟨hW3,hoth,rfl,rfl⟩:=hmode.isLast hi (by omega)
       simp only [hst] at hwg
       obtain ⟨g',hgo,m₂,hk⟩:=hx (by simpa using hwg)
       refine book hgo (aside_setCell w (stA Wg) _) (hwg.setSt 0) (by intro e he;simp at he;subst he;exact bk_cell _ _ rfl) (by intro jx e he;match jx,he with | 0,_=>exact .inr (by simp [deafBehind]) | jx+1,he=>simp at he) (.d4 hk) rfl (by omega) (by omega) ?_ (.inl ⟨by omega,by simp [cnt]⟩)
       have:=Go.ConcN.Mode.last (j:=j) (D:=upd D 0 ⟨2,m₂,1⟩) (tag:=tag) 0 hW3 hi (by rw [upd_same];simp) (fun a ha e=>by rw [upd_ne D _ e];exact hoth a ha e)
       rw [upd_same] at this
       simpa using this
     · obtain ⟨g',w',es,hgo,⟨rfl,rfl⟩,hg'⟩:=hstep w (RW.refl w)
       exact idle hgo (.d3 hg') rfl (by omega)
   | d4 h=>
     rcases Goes.cases h with hstop | ⟨m',rfl,hstep⟩
     · obtain ⟨_,hmw,hx⟩:=hstop w (RW.refl w)
       obtain ⟨hW3,hoth,rfl,rfl⟩:=hmode.isLast hi (by omega)
       simp only [hst] at hwg
       obtain ⟨g',hgo,q,hq⟩:=hx (by simpa using hwg)
       have hrun' :g'.status= .running:=by
         cases q with
         | zero=>exact absurd hq.2 (by decide)
         | succ q=>exact hq.elim (fun x=>absurd x.2 (by decide)) (fun x=>x.1)
       refine bookG hgo (aside_setCell w (smA Wg) _) (hwg.setSm 1) (es:=semEvents (smA Wg)) bk_sem ?_ (.quit hq) (by simp [deafBehind,semEvents]) (by omega) (by omega) ?_ (.inl ⟨by omega,by simp [cnt]⟩)
       · intro jx e he
         match jx,he with
         | 0,he=>simp [semEvents] at he;subst he;exact .inl rfl
         | 1,_=>exact .inr (by simp [deafBehind,semEvents])
         | 2,_=>exact .inr (by simp [deafBehind,semEvents])
         | 3,he=>simp [semEvents] at he;subst he;exact .inl rfl
         | jx+4,he=>simp [semEvents] at he
       · intro tag' ht hw
         have hnb:=hw hmw hrun'
         have e3:tag' = .w3:=by
           rcases ht with rfl | ⟨_,rfl⟩
           · cases tag' <;>first | rfl | exact hW3.elim | exact absurd rfl hnb
           · rfl
         subst e3
         simp only [if_true]
         exact .sema fun a ha=>by
           by_cases e:a=0
           · subst e;rw [upd_same]
           · rw [upd_ne D _ e];exact hoth a ha e
     · obtain ⟨g',w',es,hgo,⟨rfl,rfl⟩,hg'⟩:=hstep w (RW.refl w)
       exact idle hgo (.d4 hg') rfl (by omega)
   | quit h=>
     cases m with
     | zero=>rw [h.1] at hrun;cases hrun
     | succ q1=>
       rcases h with ⟨hf,_⟩ | ⟨_,g',es,hmute,hstep,hq⟩
       · rw [hf] at hrun;cases hrun
       · have hbk:∀e∈es,Bk Wg e:=fun e he=>bk_of_mute (hmute e he)
         refine book (hstep w) (.refl Wg w) hwg hbk (fun jx e he=> .inl (touch_mute (hmute e (Array.mem_of_getElem? he)))) (.quit hq) rfl (by omega) (by omega) (by have:=hmode.same (i:=0) q1 (deafBehind dd es);rwa [hst] at this) (.inr ⟨rfl,rfl⟩)
end
end
end Crw
end Go.Proofs.YtfphigmeppdocaaGreat
namespace Go.Proofs.YtfphigmeppdocaaGreat
namespace Crw
open Go.Conc Go.ConcN
open Go.ConcR (KK wgBlock WgAt stA smA rd wr mk Payload DC0 Bk g_of_ofEvents again_blocked ofEvent_loc_mark ofEvent_cell ofEvent_mk)
theorem okC_of_Bk {SB:Nat -> Prop} {Wg j:Nat} {es:Array Event} {Own Rd:Nat -> Loc -> Prop} (hW:SB Wg) {fn:FuncId} {pos:String} (h:∀e∈es,Bk Wg e):∀op∈MemOp.ofEvents 0 fn pos es,Ok0 (ShS SB) Own Rd j op /\ ∀B,Wg<B -> lowT B op.act:=by
 intro op hop
 obtain ⟨e,he,rfl⟩:=Go.Conc.mem_ofEvents hop
 rcases h e he with h1 | h1 | ⟨a,wr,rfl,ha⟩
 · exact ⟨⟨rfl,fun x hx=>by simp only [ofEvent_loc_mark h1] at hx;cases hx⟩,(fun B _ x hx=>by simp only [ofEvent_loc_mark h1] at hx;cases hx)⟩
 · exact ⟨⟨rfl,fun x hx=>by simp only [ofEvent_loc_mark h1] at hx;cases hx⟩,(fun B _ x hx=>by simp only [ofEvent_loc_mark h1] at hx;cases hx)⟩
 · refine ⟨⟨rfl,fun x hx=> ?_⟩,fun B hB x hx=> ?_⟩<;>simp only [ofEvent_cell,MemAct.touch?,Option.some.injEq] at hx<;>subst hx
   · exact .inl ⟨⟨a,rfl,by rw [ha];exact hW⟩,by simp⟩
   · show a.block<B
     omega
section
variable [Payload]
section
variable (P:Program) {SB:Nat -> Prop} (ty:TypeId) (Wg:Nat) {C Low:Nat} (W:WSpec P SB ty Wg C Low) (base:Nat) (w0:World) (Out:Goroutine -> Prop)
structure Joined (gs:Array Goroutine) (a:Goroutine) (w:World) (t:Trace) (q:Nat -> Nat):Prop where
 zero:gs[0]? =some a
 out:Out a
 size:gs.size=base+2
 fr:Fr P SB gs q w t
 fin:∃v,Has C 0 v w /\ W.Fin v w
 same:w.os=w0.os /\ w.output=w0.output /\ w.tape=w0.tape
 live:WgLive ty Wg w
end
section
variable {P:Program} {SB:Nat -> Prop} {ty:TypeId} {Wg C Low:Nat} {W:WSpec P SB ty Wg C Low} {base T0:Nat} {w0:World} {AnchW:Goroutine -> World -> Prop} {Out:Goroutine -> Prop} {o0:Obj} {o1:Obj} {v1:Value}
 {gs:Array Goroutine} {w w' :World} {sl:Option (Nat×Nat)} {t:Trace} {j:Nat} {D:Nat -> WD} {Y:Stt W.X} {q:Nat -> Nat} {f0 f' d0:Nat} {nbo nbo' :Option Obj} {tag tag' :CTag} {a a' :Goroutine} {st sm st' sm' :Int} {es:Array Event}
theorem cNx (G:Geom SB Wg C Low) (ha:gs[0]? =some a) (hpi:(PI P ty Wg W base T0 w0) gs w t j (D 0) Y q d0 nbo) (hyn:j=0 -> ∃v,Y= .done v) (hgo:stepG P true a w= .go a' w' es)
   (hout:w'.os=w.os /\ w'.output=w.output /\ w'.tape=w.tape) (hsize:w.heap.size <= w'.heap.size) (hst:j=1 -> Stay Wg w w') (hold:j=0 -> ∀b,b<Low -> b≠Wg -> w'.heap[b]? =w.heap[b]?)
   (hok:∀op∈MemOp.ofEvents 0 a.frame.fn a.frame.place es,Ok0 (ShS SB) (OwnF base SB) noP (base+j) op) (hlow:∀op∈MemOp.ofEvents 0 a.frame.fn a.frame.place es,lowT w'.heap.size op.act) (hnr:∀e∈es,e.loc≠ .mark (.release (stA Wg)))
   (hn0:j=0 -> nbo' =none -> w'.heap.size=Low) (hnb:∀o,nbo' =some o -> j=0 /\ w'.heap.size=Low+1 /\ w'.heap[Low]? =some o)
   (hcs' :(CS P ty Wg AnchW Out W w0 o0 o1 v1) tag' j f' (deafBehind d0 es) nbo' a' w') (hwg:WgAt ty Wg w' st' sm') (hmode:Go.ConcN.Mode j D tag' st' sm')
   (hlt:phi 1 (Vc j D) tag' <phi 1 (Vc j D) tag \/ (phi 1 (Vc j D) tag' =phi 1 (Vc j D) tag /\ f' <f0)):
   (Nx P ty Wg W base T0 w0 AnchW Out o0 o1 v1) (phi 1 (Vc j D) tag+Ssum j D) Y (f0+2*(Fsum j D+sumTo (base+1) q)) (crowd gs w sl) 0 t:=by
 have hrun:=runT_crowd_go (P:=P) (sl:=sl) (i:=0) ha (by simpa using hgo)
 have hpi':=hpi.step0 (a:=a) (a':=a') G hout hsize ⟨_,_,hwg⟩ hst hold hok hlow hnr hn0 hnb
 refine ⟨_,_,phi 1 (Vc j D) tag' +Ssum j D,Y,f' +2*(Fsum j D+sumTo (base+1) q),hrun,?_,
   _,w',sl,j,D,tag',f',deafBehind d0 es,nbo',a',st',sm',q,rfl,get_map_set_same _ _ _ (by rw [hpi.size];omega),hcs',hpi',hwg,hmode,hyn,rfl,rfl⟩
 rcases hlt with h | ⟨h1,h2⟩
 · exact .inl (by omega)
 · exact .inr (.inr ⟨by rw [h1],rfl,by omega⟩)
theorem bookC (G:Geom SB Wg C Low) (ha:gs[0]? =some a) (hpi:(PI P ty Wg W base T0 w0) gs w t j (D 0) Y q d0 nbo) (hyn:j=0 -> ∃v,Y= .done v) (hgo:stepG P true a w= .go a' w' es)
   (hAs:Aside Wg w w') (hbk:∀e∈es,Bk Wg e) (hnb:nbo' =nbo) (hcs' :(CS P ty Wg AnchW Out W w0 o0 o1 v1) tag' j f' (deafBehind d0 es) nbo' a' w') (hwg:WgAt ty Wg w' st' sm') (hmode:Go.ConcN.Mode j D tag' st' sm')
   (hlt:phi 1 (Vc j D) tag' <phi 1 (Vc j D) tag \/ (phi 1 (Vc j D) tag' =phi 1 (Vc j D) tag /\ f' <f0)):
   (Nx P ty Wg W base T0 w0 AnchW Out o0 o1 v1) (phi 1 (Vc j D) tag+Ssum j D) Y (f0+2*(Fsum j D+sumTo (base+1) q)) (crowd gs w sl) 0 t:=by
 have hWs:Wg<w.heap.size:=Nat.lt_of_lt_of_le G.hW hpi.lo
 refine cNx G ha hpi hyn hgo ⟨hAs.os,hAs.output,hAs.tape⟩ (by rw [hAs.size];exact Nat.le_refl _) (fun _=>⟨fun b h1=>hAs.block b h1,hAs.size⟩) (fun _ b _ h1=>hAs.block b h1) (fun op hop=>(okC_of_Bk G.sbW hbk op hop).1) (fun op hop=>(okC_of_Bk (j:=0) (Own:=noP) (Rd:=noP) G.sbW hbk op hop).2 _ (by rw [hAs.size];exact hWs)) (norel_of_Bk hbk)
   (fun hj hn=>by rw [hAs.size];exact hpi.nob hj (hnb▸hn)) (fun o hb=> ?_) hcs' hwg hmode hlt
 subst hnb
 obtain ⟨h1,h2,h3⟩:=hpi.nb o hb
 exact ⟨h1,by rw [hAs.size];exact h2,by rw [hAs.block Low (by have:=G.hW;omega)];exact h3⟩
theorem idleC (G:Geom SB Wg C Low) (ha:gs[0]? =some a) (hpi:(PI P ty Wg W base T0 w0) gs w t j (D 0) Y q d0 nbo) (hyn:j=0 -> ∃v,Y= .done v) (hgo:stepG P true a w= .go a' w' es) (hD:D0 Wg w w' es)
   (hcs' :(CS P ty Wg AnchW Out W w0 o0 o1 v1) tag j f' d0 nbo a' w') (hwg:WgAt ty Wg w st sm) (hmode:Go.ConcN.Mode j D tag st sm) (hf:f' <f0):
   (Nx P ty Wg W base T0 w0 AnchW Out o0 o1 v1) (phi 1 (Vc j D) tag+Ssum j D) Y (f0+2*(Fsum j D+sumTo (base+1) q)) (crowd gs w sl) 0 t:=by
 obtain ⟨rfl,hev⟩:=hD
 have hWs:Wg<w'.heap.size:=Nat.lt_of_lt_of_le G.hW hpi.lo
 have hdf:deafBehind d0 es=d0:=deafBehind_idle (fun e he=>⟨(hev e he).2.1,(hev e he).2.2.1⟩) d0
 refine cNx G ha hpi hyn hgo ⟨rfl,rfl,rfl⟩ (Nat.le_refl _) (fun _=>⟨fun _ _=>rfl,rfl⟩) (fun _ _ _ _=>rfl) (fun op hop=> ?_) (fun op hop=> ?_) (fun e he=>(hev e he).2.2.2) hpi.nob hpi.nb (by rw [hdf];exact hcs') hwg hmode (.inr ⟨rfl,hf⟩)
 · obtain ⟨e,he,rfl⟩:=Go.Conc.mem_ofEvents hop
   refine ⟨rfl,fun x hx=> ?_⟩
   obtain ⟨⟨a1,h1,h2⟩,h3⟩:=(hev e he).1 x hx
   exact .inl ⟨⟨a1,h1,by rw [h2];exact G.sbW⟩,h3⟩
 · obtain ⟨e,he,rfl⟩:=Go.Conc.mem_ofEvents hop
   intro x hx
   obtain ⟨⟨a1,h1,h2⟩,h3⟩:=(hev e he).1 x hx
   rw [h1]
   show a1.block<_
   rw [h2];exact hWs
theorem w1Step (G:Geom SB Wg C Low) (ha:gs[0]? =some a) (hpi:(PI P ty Wg W base T0 w0) gs w t 1 (D 0) Y q 1 none) (hyn:(1:Nat)=0 -> ∃v,Y= .done v) (hwg:WgAt ty Wg w st sm) (hmode:Go.ConcN.Mode 1 D .w1 st sm)
   (h:Goes P true (R0 ty Wg) (D0 Wg) (AtW1 P ty Wg AnchW Out) f0 a w):(Nx P ty Wg W base T0 w0 AnchW Out o0 o1 v1) (phi 1 (Vc 1 D) .w1+Ssum 1 D) Y (f0+2*(Fsum 1 D+sumTo (base+1) q)) (crowd gs w sl) 0 t:=by
 rcases Goes.cases h with hstop | ⟨m',rfl,hstep⟩
 · obtain ⟨_,hall⟩:=hstop w (R0.refl ty Wg w)
   obtain ⟨ho,rfl,rfl,_⟩:=hmode.open_inv trivial
   have hV:=Vc_le 1 D
   obtain ⟨a',hgo,h0,hne⟩:=hall (Vc 1 D) (by omega) (by simpa [pend] using hwg)
   by_cases hv:Vc 1 D=0
   · obtain ⟨m₂,hk⟩:=h0 hv
     refine bookC G ha hpi hyn hgo (.refl Wg w) bk_rd rfl (tag':= .ke) (.ke hk) hwg ?_ (.inl (by simp only [phi];omega))
     have e:((Vc 1 D+pend .w1:Nat):Int)*KK=0:=by rw [hv];simp [pend]
     rw [e]
     exact .fin trivial (allQuit_of ho hv)
   · obtain ⟨m₂,hk⟩:=hne hv
     exact bookC G ha hpi hyn hgo (.refl Wg w) bk_rd rfl (tag':= .w2 (Vc 1 D)) (.w2 hk) hwg (hmode.reopen trivial trivial rfl (fun vs e=>by cases e;omega)) (.inl (by simp only [phi];omega))
 · obtain ⟨a',w',es,hgo,hD,hg'⟩:=hstep w (R0.refl ty Wg w)
   exact idleC G ha hpi hyn hgo hD (.w1 hg') hwg hmode (by omega)
theorem acqStep (ha:gs[0]? =some a) (hl:WgLive ty Wg w) (G:Geom SB Wg C Low) (hpi:(PI P ty Wg W base T0 w0) gs w t 1 (D 0) Y q 0 none) (hq:AllQuit 1 D) (hgo:stepG P true a w= .go a' w #[mk (.acquire (stA Wg))]) (hO:Out a'):
   ∃gs' ops q',runT P (crowd gs w sl) 0=(.next (crowd gs' w sl),ops) /\ Joined P ty Wg W base w0 Out gs' a' w (t++ops) q':=by
 have hrun:=runT_crowd_go (P:=P) (sl:=sl) (i:=0) ha (by simpa using hgo)
 have hsz:=hpi.size
 have e1:MemOp.ofEvents 0 a.frame.fn a.frame.place #[mk (.acquire (stA Wg))]=#[{g:=0,fn:=a.frame.fn,pos:=a.frame.place,act:= .mark (.acquire (stA Wg)) }]:=by rw [ofEvents_eq];simp [ofEvent_mk]
 have hy:(t++#[({g:=0,fn:=a.frame.fn,pos:=a.frame.place,act:= .mark (.acquire (stA Wg)) }:MemOp)])[t.size]? =some {g:=0,fn:=a.frame.fn,pos:=a.frame.place,act:= .mark (.acquire (stA Wg)) }:=by simp
 have hok:∀op∈MemOp.ofEvents 0 a.frame.fn a.frame.place #[mk (.acquire (stA Wg))],op.act.touch? =none /\ op.g=0 /\ op.act≠ .mark (.release (stA Wg)):=by
   intro op hop
   rw [e1] at hop
   simp at hop
   subst hop
   exact ⟨rfl,rfl,by simp⟩
 have hT:=Tr.app0 apartF hpi.tr (fun op hop=>⟨(hok op hop).2.1,fun x hx=>by rw [(hok op hop).1] at hx;cases hx⟩) (fun op hop=>lowT_none (hok op hop).1)
 have hB:=hT.back (q:=t.size) (T0:=T0) (norel_app hpi.norel fun op hop=>(hok op hop).2.2) (by rw [e1,act?_of hy]) (by rw [e1];simp [Trace.g?])
   (by rw [e1];exact ⟨0,by simp [Trace.g?],by rw [deaf_old (Nat.le_refl _)];exact hpi.deaf0⟩) (fun k hk hkn=>by
     obtain rfl:k=base+1:=by omega
     obtain ⟨r,hr0,hr⟩:=hpi.rel rfl (by rw [hq 0 (by omega)];omega)
     exact ⟨r,hr0,hr.app (hr.by_.appOther (fun op hop=>(hok op hop).2.1) (by omega)) fun op hop hg=>by have:=(hok op hop).2.1;omega,lt_of_act? hr.by_.act⟩)
 obtain ⟨g,v,hg,hYv,hqq⟩:∃g v,gs[base+1]? =some g /\ Y= .done v /\ QuitsD P (D 0).fuel (D 0).deaf g:=by
   obtain ⟨g,hg,hs⟩:=hpi.wk rfl
   obtain ⟨y,hYi⟩:∃y,Y=y:=⟨Y,rfl⟩
   rw [hYi] at hs
   cases hs with
   | work h7=>have:=hq 0 (by omega);omega
   | done hs=>exact ⟨g,_,hg,hYi,hs.quits (hq 0 (by omega))⟩
 refine ⟨_,_,fun k=>if k <= base then q k else (D 0).fuel,hrun,⟨get_map_set_same _ _ _ (by omega),hO,by simp [hsz],⟨fun k x hk hx=> ?_,fun k hk=> ?_,?_,?_,fun b hb=>Nat.lt_of_lt_of_le (G.sbL b hb) hpi.lo⟩,?_,hpi.out,hl⟩⟩
 · rw [get_map_set _ _ _ _ (by omega)] at hx
   obtain ⟨y,hy',rfl⟩:=Option.map_eq_some_iff.1 hx
   rw [Deaf_other t (by omega) _ g_of_ofEvents]
   by_cases hkb:k <= base
   · have:=hpi.lv k y hk hkb hy'
     rw [woken_quitsD this]
     simp only [hkb,if_true]
     exact this
   · obtain rfl:k=base+1:=by have:=(Array.getElem?_eq_some_iff.1 hy').1;omega
     rw [hy'] at hg;cases hg
     rw [woken_quitsD hqq]
     simp only [hkb,if_false]
     rw [hpi.deafW rfl]
     exact hqq
 · simp only [Array.size_setIfInBounds,Array.size_map] at hk
   rw [Deaf_other t (by omega) _ g_of_ofEvents]
   exact hpi.above k hk
 · have:((gs.map (woken P a a' w)).setIfInBounds 0 a').size- 1=base+1:=by
     simp only [Array.size_setIfInBounds,Array.size_map,hsz]
     omega
   rw [this]
   exact hB
 · rw [Deaf_own,hpi.deaf0]
   rfl
 · obtain ⟨h1,h2⟩:=hpi.fin v rfl hYv
   exact ⟨v,h2 (by rw [hq 0 (by omega)];omega),h1⟩
set_option maxHeartbeats 1600000 in
theorem stepCaller (G:Geom SB Wg C Low) (hAn:∀g w,AnchW g w -> ∃m,Goes P true (R0 ty Wg) (D0 Wg) (AtW1 P ty Wg AnchW Out) m g w)
   (ha:gs[0]? =some a) (hcs:(CS P ty Wg AnchW Out W w0 o0 o1 v1) tag j f0 d0 nbo a w) (hpi:(PI P ty Wg W base T0 w0) gs w t j (D 0) Y q d0 nbo) (hyn:j=0 -> ∃v,Y= .done v) (hwg:WgAt ty Wg w st sm) (hmode:Go.ConcN.Mode j D tag st sm) (hrun:a.status= .running):
   (Nx P ty Wg W base T0 w0 AnchW Out o0 o1 v1) (phi 1 (Vc j D) tag+Ssum j D) Y (f0+2*(Fsum j D+sumTo (base+1) q)) (crowd gs w sl) 0 t \/
   ∃gs' a' ops q',runT P (crowd gs w sl) 0=(.next (crowd gs' w sl),ops) /\ Joined P ty Wg W base w0 Out gs' a' w (t++ops) q':=by
 have hVj:=Vc_le j D
 have hb:=hcs.bound
 have rr:=R0.refl ty Wg w
 cases hcs with
 | snew h=>
   left
   rcases Goes.cases h with hstop | ⟨m',rfl,hstep⟩
   · obtain ⟨_,hx⟩:=hstop w rr
     have hL:=hpi.nob rfl rfl
     obtain ⟨a',hgo,m₂,hk⟩:=hx hL
     have hlt:∀b,b<Low -> ({w with heap:=w.heap.push o0 }:World).heap[b]? =w.heap[b]? :=fun b hb' =>by
       have hb2:b<w.heap.size:=by omega
       simp only;rw [Array.getElem?_push_lt hb2,Array.getElem?_eq_getElem hb2]
     exact cNx G ha hpi hyn hgo ⟨rfl,rfl,rfl⟩ (by simp) (fun h=>by omega) (fun _ b hb' _=>hlt b hb') (by rw [ofEvents_eq];simp) (by rw [ofEvents_eq];simp) (by simp) (fun _ h=>by cases h) (fun o e=>by cases e;exact ⟨rfl,by simp [hL],by simp [<- hL]⟩) (.sput hk) (tag':= .sp 0 6) (hwg.of_block (hlt Wg G.hW)) (hmode.reopen trivial trivial (by simp [pend]) (by simp)) (.inl (by simp only [phi];omega))
   · obtain ⟨a',w',es,hgo,hD,hg'⟩:=hstep w rr
     exact idleC G ha hpi hyn hgo hD (.snew hg') hwg hmode (by omega)
 | sput h=>
   left
   obtain ⟨_,n2,n4⟩:=hpi.nb o0 rfl
   rcases Goes.cases h with hstop | ⟨m',rfl,hstep⟩
   · obtain ⟨_,hx⟩:=hstop w rr
     obtain ⟨a',hgo,hnew,m₂,hk⟩:=hx n4
     have hset:(w.setCell ⟨Low,0,none⟩ v1).heap.size=w.heap.size:=by simp [World.setCell]
     have hoth:∀b,b≠Low -> (w.setCell ⟨Low,0,none⟩ v1).heap[b]? =w.heap[b]? :=fun b hb' =>(aside_setCell w ⟨Low,0,none⟩ _).block b hb'
     refine cNx G ha hpi hyn hgo ⟨rfl,rfl,rfl⟩ (by rw [hset];exact Nat.le_refl _) (fun h=>by omega) (fun _ b hb' _=>hoth b (by omega)) (fun op hop=> ?_) (fun op hop=> ?_) (by intro e he;simp at he;subst he;simp) (fun _ h=>by cases h) (fun o e=> ?_) (.skd hk) (tag':= .sp 0 5) (hwg.of_block (hoth Wg (by have:=G.hW;omega))) (hmode.reopen trivial trivial (by simp [pend]) (by simp)) (.inl (by simp only [phi];omega))
     · obtain ⟨e,he,rfl⟩:=Go.Conc.mem_ofEvents hop
       simp at he;subst he
       refine ⟨rfl,fun x hx=> .inr ?_⟩
       simp only [ofEvent_cell,MemAct.touch?,Option.some.injEq] at hx
       subst hx
       exact ⟨fun ⟨a1,e1,e2⟩=>by cases e1;have:=G.sbL _ e2;simp only at this;omega,fun k k1 kj hk' =>by have:=hk'.1;omega,fun _ k k1 kj hk' =>hk'⟩
     · obtain ⟨e,he,rfl⟩:=Go.Conc.mem_ofEvents hop
       simp at he;subst he
       intro x hx
       simp only [ofEvent_cell,MemAct.touch?,Option.some.injEq] at hx
       subst hx
       show Low<_
       rw [hset];omega
     · cases e
       exact ⟨rfl,by rw [hset];exact n2,hnew⟩
   · obtain ⟨a',w',es,hgo,hD,hg'⟩:=hstep w rr
     exact idleC G ha hpi hyn hgo hD (.sput hg') hwg hmode (by omega)
 | skd h=>
   left
   rcases Goes.cases h with hstop | ⟨m',rfl,hstep⟩
   · obtain ⟨_,a',hgo,m₂,hk⟩:=hstop w rr
     exact bookC G ha hpi hyn hgo (.refl Wg w) bk_dis rfl (.sa1 hk) hwg (hmode.reopen trivial trivial rfl (by simp)) (.inl (by simp only [phi];omega))
   · obtain ⟨a',w',es,hgo,hD,hg'⟩:=hstep w rr
     exact idleC G ha hpi hyn hgo hD (.skd hg') hwg hmode (by omega)
 | sa1 h=>
   left
   rcases Goes.cases h with hstop | ⟨m',rfl,hstep⟩
   · obtain ⟨_,hall⟩:=hstop w rr
     obtain ⟨ho,rfl,rfl,_⟩:=hmode.open_inv trivial
     obtain ⟨a',hgo,m₂,hk⟩:=hall (Vc 0 D) (by omega) (by simpa [pend] using hwg)
     refine bookC G ha hpi hyn hgo (aside_setCell w (stA Wg) _) bk_rw rfl (.ske hk) (hwg.setSt _) ?_ (.inl (by simp only [phi];omega))
     have e:(((Vc 0 D:Nat):Int)+1)*KK=((Vc 0 D+pend (.sp 0 3):Nat):Int)*KK:=by simp [pend]
     rw [e]
     exact .opn trivial ho (by simp)
   · obtain ⟨a',w',es,hgo,hD,hg'⟩:=hstep w rr
     exact idleC G ha hpi hyn hgo hD (.sa1 hg') hwg hmode (by omega)
 | ske h=>
   left
   rcases Goes.cases h with hstop | ⟨m',rfl,hstep⟩
   · obtain ⟨_,a',hgo,m₂,hk⟩:=hstop w rr
     exact bookC G ha hpi hyn hgo (.refl Wg w) bk_en rfl (.sgo hk) hwg (hmode.reopen trivial trivial rfl (by simp)) (.inl (by simp only [phi];omega))
   · obtain ⟨a',w',es,hgo,hD,hg'⟩:=hstep w rr
     exact idleC G ha hpi hyn hgo hD (.ske hg') hwg hmode (by omega)
 | sgo h=>
   left
   rcases Goes.cases h with hstop | ⟨m',rfl,hstep⟩
   · obtain ⟨_,a',child,hsp,hnext,hborn⟩:=hstop w rr
     obtain ⟨_,n2,n4⟩:=hpi.nb _ rfl
     obtain ⟨x0,hx0⟩:=hborn n4 (hpi.old rfl) n2 ⟨_,_,hwg⟩
     obtain ⟨ho,rfl,rfl,_⟩:=hmode.open_inv trivial
     have hrun':=runT_crowd_spawn (P:=P) (sl:=sl) (i:=0) ha (by simpa using hsp)
     rw [hpi.size] at hrun'
     have hpi':=hpi.spawn (a':=a') (x:={g:=0,fn:=a.frame.fn,pos:=a.frame.place,act:= .go (base+1) }) (y:={g:=base+1,fn:=child.frame.fn,pos:=a.frame.place,act:= .start }) ⟨rfl,rfl⟩ ⟨rfl,rfl⟩ hx0
     have ha' :((gs.setIfInBounds 0 a').push child)[0]? =some a':=by
       have h0:0<gs.size:=by rw [hpi.size];omega
       rw [Array.getElem?_push_lt (by simpa using h0),<- Array.getElem?_eq_getElem]
       simp [h0]
     have ops0:((MemOp.ofEvents 0 a.frame.fn a.frame.place #[]).push {g:=0,fn:=a.frame.fn,pos:=a.frame.place,act:= .go (base+1) } |>.push {g:=base+1,fn:=child.frame.fn,pos:=a.frame.place,act:= .start })=#[{g:=0,fn:=a.frame.fn,pos:=a.frame.place,act:= .go (base+1) },{g:=base+1,fn:=child.frame.fn,pos:=a.frame.place,act:= .start }]:=by
       rw [ofEvents_eq];simp
     rw [Nat.add_zero,ops0] at hrun'
     obtain ⟨m₂,hk⟩:=hnext
     refine ⟨_,_,_,.at_ x0,m₂+2*(Fsum 1 (fun _=>⟨7,0,0⟩)+sumTo (base+1) q),hrun',?_,_,w,sl,1,fun _=>⟨7,0,0⟩,.kd,m₂,0,none,a',_,_,q,rfl,ha',.kd hk,hpi',hwg,?_,fun h=>by omega,rfl,rfl⟩
     · refine .inl ?_
       simp only [phi,Ssum,sumTo]
       simp
     · have e:((Vc 0 D+pend (.sp 0 2):Nat):Int)*KK=((Vc 1 (fun _=>(⟨7,0,0⟩:WD))+pend .kd:Nat):Int)*KK:=by simp [Vc,sumTo,cnt,pend]
       rw [e]
       exact .opn trivial (fun i _=>by simp) (by simp)
   · obtain ⟨a',w',es,hgo,hD,hg'⟩:=hstep w rr
     exact idleC G ha hpi hyn hgo hD (.sgo hg') hwg hmode (by omega)
 | kd h=>
   left
   rcases Goes.cases h with hstop | ⟨m',rfl,hstep⟩
   · obtain ⟨_,a',hgo,m₂,hk⟩:=hstop w rr
     exact bookC G ha hpi hyn hgo (.refl Wg w) bk_dis rfl (.anch hk) hwg (hmode.reopen trivial trivial rfl (by simp)) (.inl (by simp only [phi];omega))
   · obtain ⟨a',w',es,hgo,hD,hg'⟩:=hstep w rr
     exact idleC G ha hpi hyn hgo hD (.kd hg') hwg hmode (by omega)
 | anch h=>
   left
   rcases Goes.cases h with hstop | ⟨m',rfl,hstep⟩
   · obtain ⟨m₂,hk⟩:=hAn a w (hstop w rr)
     obtain ⟨m₁,ops,N',Y',F',h1,h2,h3⟩:=w1Step (base:=base) (w0:=w0) (o0:=o0) (o1:=o1) (v1:=v1) (T0:=T0) (sl:=sl) G ha hpi hyn hwg (hmode.reopen trivial trivial rfl (by simp)) hk
     refine ⟨m₁,ops,N',Y',F',h1,.inl ?_,h3⟩
     simp only [phi] at h2 ⊢
     rcases h2 with h2 | ⟨h2,_⟩ | ⟨h2,_⟩<;>omega
   · obtain ⟨a',w',es,hgo,hD,hg'⟩:=hstep w rr
     exact idleC G ha hpi hyn hgo hD (.anch hg') hwg hmode (by omega)
 | w1 h=>exact .inl (w1Step G ha hpi hyn hwg hmode h)
 | w2 h=>
   rename_i vs
   left
   rcases Goes.cases h with hstop | ⟨m',rfl,hstep⟩
   · obtain ⟨_,hall⟩:=hstop w rr
     obtain ⟨ho,rfl,rfl,hw2⟩:=hmode.open_inv trivial
     obtain ⟨hle,h1⟩:=hw2 vs rfl
     obtain ⟨hhit,hmiss⟩:=hall (Vc 1 D) (by omega) (by simpa [pend] using hwg)
     by_cases e:Vc 1 D=vs
     · obtain ⟨a',hgo,m₂,hk⟩:=hhit e
       exact bookC G ha hpi hyn hgo (aside_setCell w (stA Wg) _) bk_rw rfl (.w3 hk) (hwg.setSt _) (.reg trivial ho (by omega)) (.inl (by simp only [phi];omega))
     · obtain ⟨a',hgo,m₂,hk⟩:=hmiss e
       exact bookC G ha hpi hyn hgo (.refl Wg w) bk_rd rfl (.anch hk) hwg (hmode.reopen trivial trivial rfl (by simp)) (.inl (by simp only [phi];omega))
   · obtain ⟨a',w',es,hgo,hD,hg'⟩:=hstep w rr
     exact idleC G ha hpi hyn hgo hD (.w2 hg') hwg hmode (by omega)
 | w3 h=>
   left
   rcases Goes.cases h with hstop | ⟨m',rfl,hstep⟩
   · obtain ⟨_,hoff,hblk,htake⟩:=hstop w rr
     cases hmode with
     | opn h1 _ _=>exact h1.elim
     | reg h1 h2 h3=>exact bookC G ha hpi hyn (hblk ⟨_,hwg⟩) (.refl Wg w) (by simp) rfl (.blk hstop) hwg (.reg trivial h2 h3) (.inr ⟨rfl,by omega⟩)
     | last L h1 h2 h3 h4=>exact bookC G ha hpi hyn (hblk ⟨_,hwg⟩) (.refl Wg w) (by simp) rfl (.blk hstop) hwg (.last L trivial h2 h3 h4) (.inr ⟨rfl,by omega⟩)
     | sema h2=>
       obtain ⟨a',hgo,m₂,hk⟩:=htake hwg
       exact bookC G ha hpi hyn hgo (aside_setCell w (smA Wg) _) bk_sem rfl (.w4 hk) (hwg.setSm 0) (.fin trivial h2) (.inl (by simp only [phi];omega))
     | fin h1 _=>exact h1.elim
   · obtain ⟨a',w',es,hgo,hD,hg'⟩:=hstep w rr
     exact idleC G ha hpi hyn hgo hD (.w3 hg') hwg hmode (by omega)
 | blk h=>simp at hrun
 | w4 h=>
   left
   rcases Goes.cases h with hstop | ⟨m',rfl,hstep⟩
   · obtain ⟨_,hx⟩:=hstop w rr
     obtain ⟨hq,rfl,rfl⟩:=hmode.fin_inv trivial
     obtain ⟨a',hgo,m₂,hk⟩:=hx hwg
     exact bookC G ha hpi hyn hgo (.refl Wg w) bk_rd rfl (.ke hk) hwg (.fin trivial hq) (.inl (by simp only [phi];omega))
   · obtain ⟨a',w',es,hgo,hD,hg'⟩:=hstep w rr
     exact idleC G ha hpi hyn hgo hD (.w4 hg') hwg hmode (by omega)
 | ke h=>
   left
   rcases Goes.cases h with hstop | ⟨m',rfl,hstep⟩
   · obtain ⟨_,a',hgo,m₂,hk⟩:=hstop w rr
     obtain ⟨hq,rfl,rfl⟩:=hmode.fin_inv trivial
     exact bookC G ha hpi hyn hgo (.refl Wg w) bk_en rfl (.acq hk) hwg (.fin trivial hq) (.inl (by simp only [phi];omega))
   · obtain ⟨a',w',es,hgo,hD,hg'⟩:=hstep w rr
     exact idleC G ha hpi hyn hgo hD (.ke hg') hwg hmode (by omega)
 | acq h=>
   rcases Goes.cases h with hstop | ⟨m',rfl,hstep⟩
   · obtain ⟨_,a',hgo,hO⟩:=hstop w rr
     obtain ⟨hq,rfl,rfl⟩:=hmode.fin_inv trivial
     right
     obtain ⟨gs',ops,q',h1,h2⟩:=acqStep (sl:=sl) ha ⟨_,_,hwg⟩ G hpi hq hgo hO
     exact ⟨gs',a',ops,q',h1,h2⟩
   · obtain ⟨a',w',es,hgo,hD,hg'⟩:=hstep w rr
     exact .inl (idleC G ha hpi hyn hgo hD (.acq hg') hwg hmode (by omega))
end
end
end Crw
end Go.Proofs.YtfphigmeppdocaaGreat
namespace Go.Proofs.YtfphigmeppdocaaGreat
namespace Crw
open Go.Conc Go.ConcN
open Go.ConcR (KK wgBlock WgAt stA smA rd wr mk Payload DC0 Bk g_of_ofEvents again_blocked ofEvent_loc_mark ofEvent_cell ofEvent_mk)
theorem acc_stt {X:Type} {r:X -> X -> Prop} (v:Value):Acc (Stt.lt r) (.done v):=Acc.intro _ fun y h=>by cases y<;>exact h.elim
theorem acc_stt' {X:Type} {r:X -> X -> Prop} {x:X} (h:Acc r x):Acc (Stt.lt r) (.at_ x):=by
 induction h with
 | intro x _ ih=>
   refine Acc.intro _ fun y hy=> ?_
   cases y with
   | at_ x' =>exact ih x' hy
   | done v=>exact acc_stt v
theorem counted_one {D:Nat -> WD}:∀{j:Nat},1 <= Vc j D -> ∃i,i<j /\ 5 <= (D i).stage
 | 0,h=>by simp [Vc,sumTo] at h
 | j+1,h=>by
   by_cases hc:5 <= (D j).stage
   · exact ⟨j,by omega,hc⟩
   · have:1 <= Vc j D:=by simp only [Vc,sumTo,cnt,if_neg hc] at h ⊢;simpa using h
     obtain ⟨i,hi,h5⟩:=counted_one this
     exact ⟨i,by omega,h5⟩
section
variable [Payload]
variable {P:Program} {SB:Nat -> Prop} {ty:TypeId} {Wg C Low:Nat} {W:WSpec P SB ty Wg C Low} {base T0:Nat} {w0:World} {AnchW:Goroutine -> World -> Prop} {Out:Goroutine -> Prop} {o0:Obj} {o1:Obj} {v1:Value}
theorem WS.running_of {d:WD} {y:Stt W.X} {g:Goroutine} {w:World} (h:WS P ty Wg W d y g w) (hs:d.stage≠1):g.status= .running:=by
 cases h with
 | work h1 h2 h3=>exact W.run h3
 | done h1=>
   revert hs
   generalize d.stage=s,d.fuel=f,d.deaf=dd at h1
   cases h1 with
   | r0 h=>exact fun _=>Goes.running (fun _ _ x=>x.1) w (RW.refl w) h
   | k1 h=>exact fun _=>Goes.running (fun _ _ x=>x.1) w (RW.refl w) h
   | d1 h=>exact fun _=>Goes.running (fun _ _ x=>x.1) w (RW.refl w) h
   | d2 h=>exact fun _=>Goes.running (fun _ _ x=>x.1) w (RW.refl w) h
   | d3 h=>exact fun _=>Goes.running (fun _ _ x=>x.1) w (RW.refl w) h
   | d4 h=>exact fun _=>Goes.running (fun _ _ x=>x.1) w (RW.refl w) h
   | quit _=>exact fun hs=>absurd rfl hs
theorem pstep (G:Geom SB Wg C Low) (hAr:∀g w,AnchW g w -> g.status= .running) (hAn:∀g w,AnchW g w -> ∃m,Goes P true (R0 ty Wg) (D0 Wg) (AtW1 P ty Wg AnchW Out) m g w) {N:Nat} {Y:Stt W.X} {F:Nat} {m:Machine} {t:Trace} (h:(PInv P ty Wg W base T0 w0 AnchW Out o0 o1 v1) N Y F m t):
   (∃m' ops N' Y' F',stepT P m=(.next m',ops) /\ Less P ty Wg W N' Y' F' N Y F /\ (PInv P ty Wg W base T0 w0 AnchW Out o0 o1 v1) N' Y' F' m' (t++ops)) \/
   ∃gs' a' w' sl' ops q',stepT P m=(.next (crowd gs' w' sl'),ops) /\ Joined P ty Wg W base w0 Out gs' a' w' (t++ops) q':=by
 obtain ⟨gs,w,sl,j,D,tag,f0,d0,nbo,a,st,sm,q,rfl,ha,hcs,hpi,hwg,hmode,hyn,rfl,rfl⟩:=h
 have hsz:=hpi.size
 have haw:∀g∈gs,awake g:=by
   intro g hg
   obtain ⟨i,hi⟩:=Array.mem_iff_getElem?.1 hg
   have hlt:=(Array.getElem?_eq_some_iff.1 hi).1
   rcases Nat.eq_zero_or_pos i with rfl | hpos
   · rw [ha] at hi;cases hi
     rcases hcs.status hAr with ⟨hs,_⟩ | ⟨hs,_⟩
     · exact awake_of (.inl hs)
     · intro tm;rw [hs];simp
   · by_cases hb:i <= base
     · exact awake_of ((hpi.lv i g hpos hb hi).status.elim .inl fun x=> .inr (.inr x))
     · have:=hpi.le
       obtain rfl:i=base+1:=by omega
       obtain ⟨g',hg',hs⟩:=hpi.wk (by omega)
       rw [hi] at hg';cases hg'
       exact awake_of (hs.status.elim .inl fun x=> .inr (.inr x))
 have hrun:∃(i:Nat) (g:Goroutine),gs[i]? =some g /\ g.status= .running:=by
   rcases hcs.status hAr with ⟨hs,_⟩ | ⟨_,rfl⟩
   · exact ⟨0,a,ha,hs⟩
   · cases hmode with
     | opn h1 _ _=>exact h1.elim
     | reg _ _ h3=>
       obtain ⟨i,hi,h5⟩:=counted_one h3
       have:=hpi.le
       obtain rfl:i=0:=by omega
       obtain ⟨g,hg,hs⟩:=hpi.wk (by omega)
       exact ⟨base+1,g,hg,hs.running_of (by omega)⟩
     | last L _ h2 h3 _=>
       have:=hpi.le
       obtain rfl:L=0:=by omega
       obtain ⟨g,hg,hs⟩:=hpi.wk (by omega)
       exact ⟨base+1,g,hg,hs.running_of (by omega)⟩
     | fin h1 _=>exact h1.elim
 obtain ⟨i,g,d,sl',hg,hgr,hstep⟩:=crowd_pick (P:=P) (w:=w) (sl:=sl) haw hrun
 rw [hstep]
 have hcs' :(CS P ty Wg AnchW Out W w0 o0 o1 v1) tag j f0 d0 nbo a (w.at d):=hcs.rely (fun h=>h)
 have hpi':=hpi.at d
 have hwg' :WgAt ty Wg (w.at d) st sm:=hwg
 have hlt:=(Array.getElem?_eq_some_iff.1 hg).1
 rcases Nat.eq_zero_or_pos i with rfl | hpos
 · rw [ha] at hg;cases hg
   rcases stepCaller (sl:=sl') G hAn ha hcs' hpi' hyn hwg' hmode hgr with ⟨m₁,ops,N',Y',F',h1,h2,h3⟩ | ⟨gs',a',ops,q',h1,h2⟩
   · exact .inl ⟨m₁,ops,N',Y',F',h1,h2,h3⟩
   · exact .inr ⟨gs',a',_,sl',ops,q',h1,h2⟩
 · left
   by_cases hb:i <= base
   · have hq:=hpi.lv i g hpos hb hg
     have hi0:(i==0)=false:=by simp;omega
     cases hqi:q i with
     | zero=>rw [hqi] at hq;rw [hq.1] at hgr;cases hgr
     | succ k=>
       rw [hqi] at hq
       rcases hq with ⟨hf,_⟩ | ⟨_,g',es,hm,hstp,hq'⟩
       · rw [hf] at hgr;cases hgr
       have hrunT:=runT_crowd_go (P:=P) (sl:=sl') (i:=i) hg (by rw [hi0];exact hstp (w.at d))
       obtain ⟨tag',f',hcs2,hf',htag,hwk⟩:=hcs'.wokenBy hAr (w':=w.at d) (fun h=>h) g g'
       have hsum:sumTo (base+1) (upd q i k)+(k+1)=sumTo (base+1) q+k:=by
         have:=sumTo_upd q k id (show i<base+1 by omega)
         simpa [hqi] using this
       refine ⟨_,_,_,Y,f' +2*(Fsum j D+sumTo (base+1) (upd q i k)),hrunT,?_,_,w.at d,sl',j,D,tag',f',d0,nbo,woken P g g' (w.at d) a,st,sm,upd q i k,rfl,by rw [get_map_set _ _ _ _ (by omega),ha];rfl,hcs2,hpi'.stepL (g:=g) hpos hb hm hq',hwg',hmode.retag htag,hyn,rfl,rfl⟩
       rw [phi_retag 1 _ htag]
       exact .inr (.inr ⟨rfl,rfl,by omega⟩)
   · have:=hpi.le
     obtain rfl:i=base+1:=by omega
     exact stepWorker (sl:=sl') G hAr ha hcs' hpi' hwg' hmode (by omega) hg hgr
theorem PInv.acc {N:Nat} {Y:Stt W.X} {F:Nat} {m:Machine} {t:Trace} (h:(PInv P ty Wg W base T0 w0 AnchW Out o0 o1 v1) N Y F m t):Acc (Stt.lt W.lt) Y:=by
 obtain ⟨gs,w,sl,j,D,tag,f0,d0,nbo,a,st,sm,q,rfl,ha,hcs,hpi,hwg,hmode,hyn,rfl,rfl⟩:=h
 by_cases hi:j=0
 · obtain ⟨v,hv⟩:=hyn hi
   rw [hv];exact acc_stt v
 · have:=hpi.le
   obtain ⟨g,_,hs⟩:=hpi.wk (by omega)
   cases hs with
   | work _ _ h3=>exact acc_stt' (W.acc h3)
   | done _=>exact acc_stt _
theorem phase (G:Geom SB Wg C Low) (hAr:∀g w,AnchW g w -> g.status= .running) (hAn:∀g w,AnchW g w -> ∃m,Goes P true (R0 ty Wg) (D0 Wg) (AtW1 P ty Wg AnchW Out) m g w) {Post:Value -> World -> Prop}
   (hk:∀gs a w sl t q,Joined P ty Wg W base w0 Out gs a w t q -> Ends P Post (crowd gs w sl) t):∀(N:Nat) (Y:Stt W.X) (F:Nat) (m:Machine) (t:Trace),(PInv P ty Wg W base T0 w0 AnchW Out o0 o1 v1) N Y F m t -> Ends P Post m t:=by
 intro N
 induction N using Nat.strongRecOn with
 | _ N ihN=>
   intro Y F m t h
   have hacc:=h.acc
   induction hacc generalizing F m t with
   | intro Y _ ihY=>
     induction F using Nat.strongRecOn generalizing m t with
     | _ F ihF=>
       rcases pstep G hAr hAn h with ⟨m',ops,N',Y',F',hst,hlt,h'⟩ | ⟨gs',a',w',sl',ops,q',hst,hJ⟩
       · refine .step hst ?_
         rcases hlt with h1 | ⟨rfl,h1⟩ | ⟨rfl,rfl,h1⟩
         · exact ihN N' h1 Y' F' m' _ h'
         · exact ihY Y' h1 F' m' _ h'
         · exact ihF F' h1 m' _ h'
       · exact .step hst (hk _ _ _ _ _ _ hJ)
end
end Crw
end Go.Proofs.YtfphigmeppdocaaGreat
namespace Go.Proofs.YtfphigmeppdocaaGreat
namespace Crw
open Go.Conc Go.ConcN
open Go.ConcR (KK wgBlock WgAt stA smA rd wr mk Payload DC0 Bk g_of_ofEvents)
section
variable {P:Program} {SB:Nat -> Prop} {gs:Array Goroutine} {q:Nat -> Nat} {w:World} {t:Trace} {a a' :Goroutine} {o:Obj}
def more (SB:Nat -> Prop) (x:Nat):Nat -> Prop:=fun b=>SB b \/ b=x
theorem fr_new (h0:gs[0]? =some a) (h:Fr P SB gs q w t) (hgo:stepG P true a w= .go a' {w with heap:=w.heap.push o } #[]) (sl:Option (Nat×Nat)):
   ∃gs' ops,runT P (crowd gs w sl) 0=(.next (crowd gs' {w with heap:=w.heap.push o } sl),ops) /\ gs'[0]? =some a' /\ gs'.size=gs.size /\ Fr P (more SB w.heap.size) gs' q {w with heap:=w.heap.push o } (t++ops):=by
 have hle:w.heap.size <= ({w with heap:=w.heap.push o }:World).heap.size:=by simp
 have hrunT:=runT_crowd_go (P:=P) (sl:=sl) (i:=0) h0 (show stepG P (0==0) a w=_ from hgo)
 have hsz:((gs.map (woken P a a' {w with heap:=w.heap.push o })).setIfInBounds 0 a').size=gs.size:=by simp
 have hlt:0<gs.size:=(Array.getElem?_eq_some_iff.1 h0).1
 have e0:MemOp.ofEvents 0 a.frame.fn a.frame.place #[]=#[]:=by rw [ofEvents_eq];simp
 refine ⟨_,_,hrunT,by simp [hlt],hsz,?_⟩
 rw [e0,Array.append_empty]
 refine ⟨fun j x hj hx=> ?_,fun j hj=>h.above j (by rw [hsz] at hj;exact hj),?_,h.hears,fun b hb=> ?_⟩
 · have hne:0≠j:=by omega
   rw [Array.getElem?_setIfInBounds_ne hne,Array.getElem?_map] at hx
   obtain ⟨y,hy,rfl⟩:=Option.map_eq_some_iff.1 hx
   have hqj:=h.lv j y hj hy
   rw [woken_quitsD hqj]
   exact hqj
 · rw [hsz]
   refine (h.tr.grow (Sh':=ShS (more SB w.heap.size)) (fun l ⟨x,h1,h2⟩=>⟨x,h1,.inl h2⟩) (fun i x hx ⟨y,h1,h2⟩=> ?_) (fun _ _ _ _ x=> .inl x) (fun _ _ _ _ x=>x) (fun _ _ _ _ x=>x) (fun _ _ _ _ x=>x)).mono hle
   rcases h2 with h2 | h2
   · exact ⟨y,h1,h2⟩
   · have:=h.tr.fresh hx
     rw [h1] at this
     simp only [Loc.low] at this
     omega
 · rcases hb with hb | rfl
   · exact Nat.lt_of_lt_of_le (h.sb b hb) hle
   · simp
theorem step_new {Post:Value -> World -> Prop} (hr:a.status= .running)
   (hstep:∀d,∃a',stepG P true a (w.at d)= .go a' {(w.at d) with heap:=(w.at d).heap.push o } #[] /\
     ∀gs' q' sl' t',gs'[0]? =some a' -> gs'.size=gs.size -> Fr P (more SB w.heap.size) gs' q' {(w.at d) with heap:=(w.at d).heap.push o } t' -> Ends P Post (crowd gs' {(w.at d) with heap:=(w.at d).heap.push o } sl') t'):
   ∀(M:Nat) (gs1:Array Goroutine) (q:Nat -> Nat) (d:Nat) (sl:Option (Nat×Nat)) (t:Trace),sumTo gs1.size q <= M -> gs1[0]? =some a -> gs1.size=gs.size -> Fr P SB gs1 q (w.at d) t -> Ends P Post (crowd gs1 (w.at d) sl) t:=by
 intro M
 induction M with
 | zero=>
   intro gs1 q d sl t hM h0 hsz h
   rcases fr_pick h0 hr h sl with ⟨d',sl',hst⟩ | ⟨gs',q',d',sl',ops,_,_,_,_,hlt⟩
   · obtain ⟨a',hgo,hk⟩:=hstep d'
     obtain ⟨gs',ops,hrun,h0',hs',hF'⟩:=fr_new h0 (h.at d') hgo sl'
     exact .step (hst.trans hrun) (hk gs' q sl' _ h0' (hs'.trans hsz) hF')
   · omega
 | succ M ih=>
   intro gs1 q d sl t hM h0 hsz h
   rcases fr_pick h0 hr h sl with ⟨d',sl',hst⟩ | ⟨gs',q',d',sl',ops,hst,h0',hs',hF',hlt⟩
   · obtain ⟨a',hgo,hk⟩:=hstep d'
     obtain ⟨gs',ops,hrun,h0',hs',hF'⟩:=fr_new h0 (h.at d') hgo sl'
     exact .step (hst.trans hrun) (hk gs' q sl' _ h0' (hs'.trans hsz) hF')
   · exact .step hst (ih gs' q' d' sl' _ (by rw [hs'];omega) h0' (hs'.trans hsz) hF')
end
section
variable [Payload]
variable {P:Program} {SB:Nat -> Prop} {ty:TypeId} {Wg C Low:Nat} {w0:World} {W:WSpec P SB ty Wg C Low} {AnchW:Goroutine -> World -> Prop} {Out:Goroutine -> Prop} {o0:Obj} {o1:Obj} {v1:Value}
 {gs:Array Goroutine} {q:Nat -> Nat} {t:Trace} {a:Goroutine}
theorem group (hLow:Low=w0.heap.size) (G:Geom SB Wg C Low) (hAr:∀g w,AnchW g w -> g.status= .running) (hAn:∀g w,AnchW g w -> ∃m,Goes P true (R0 ty Wg) (D0 Wg) (AtW1 P ty Wg AnchW Out) m g w) {Post:Value -> World -> Prop}
   (h0:gs[0]? =some a) (hF:Fr P SB gs q w0 t) (hwg:WgAt ty Wg w0 0 0) {m:Nat} (hS:Goes P true (R0 ty Wg) (D0 Wg) (AtNew P ty Wg W w0 o0 o1 v1 (Starts P ty Wg AnchW)) m a w0)
   (hk:∀gs' a' w' sl' t' q',Joined P ty Wg W (gs.size- 1) w0 Out gs' a' w' t' q' -> Ends P Post (crowd gs' w' sl') t') (sl:Option (Nat×Nat)):Ends P Post (crowd gs w0 sl) t:=by
 subst hLow
 have hlt:0<gs.size:=(Array.getElem?_eq_some_iff.1 h0).1
 refine phase G hAr hAn hk _ (.done undef) _ _ t ⟨gs,w0,sl,0,fun _=>⟨1,0,0⟩,.sp 0 7,m,0,none,a,0,0,q,rfl,h0,.snew hS,
   ⟨by omega,by omega,fun i g hi _ hg=>hF.lv i g hi hg,hF.above,fun h=>by omega,fun v h=>by omega,?_,fun i hi e=> ?_,Nat.le_refl _,hF.hears,fun h=>by omega,fun h=>by omega,fun _ _ _ _=>rfl,fun _ _=>rfl,fun o e=>(by cases e),Nat.le_refl _,⟨rfl,rfl,rfl⟩⟩,hwg,?_,fun _=>⟨undef,rfl⟩,rfl,rfl⟩
 · refine hF.tr.grow (fun _ x=>x) (fun _ _ _ x=>x) (fun k _ kj l hl=> ?_) (fun k _ kj l hl=>hl.elim) (fun _ _ _ _ x=>x.elim) (fun _ _ _ _ x=>x.elim)
   have:=hl.1;omega
 · have:=lt_of_act? e;omega
 · have:=Go.ConcN.Mode.opn (tag:= .sp 0 7) (j:=0) (D:=fun _=>⟨1,0,0⟩) trivial (fun i hi=>by omega) (by simp)
   have e:((Vc 0 (fun _=>(⟨1,0,0⟩:WD))+pend (.sp 0 7):Nat):Int)*KK=0:=by simp [Vc,sumTo,pend]
   rw [e] at this
   exact this
end
end Crw
end Go.Proofs.YtfphigmeppdocaaGreat
namespace Go.Proofs.YtfphigmeppdocaaGreat
namespace Crw
open Go.Conc Go.ConcN Go.RowKit Go.Conc.Lib Go.ConcR.Gen Go.ConcN.Gen
open Go.ConcR (KK wgBlock WgAt stA smA rd wr mk Payload Aside2 DC0)
theorem d0_nil {Wg:Nat} {w:World}:D0 Wg w w #[]:=⟨rfl,by simp⟩
theorem d0_none {Wg:Nat} {w:World} {es:Array Event} (h:∀e∈es,False):D0 Wg w w es:=⟨rfl,fun e he=>(h e he).elim⟩
theorem ev1_said_read {Wg:Nat} (a:Addr) (h:a.block=Wg):Ev1 Wg ⟨.mark (.read a),false,true⟩:=by
 refine ⟨fun x hx=> ?_,by simp,by simp,by simp⟩
 simp only [MemAct.ofEvent,MemAct.touch?,Option.some.injEq] at hx
 subst hx
 exact ⟨⟨a,rfl,h⟩,by simp⟩
theorem ev1_said_write {Wg:Nat} (a:Addr) (h:a.block=Wg):Ev1 Wg ⟨.mark (.write a),false,true⟩:=by
 refine ⟨fun x hx=> ?_,by simp,by simp,by simp⟩
 simp only [MemAct.ofEvent,MemAct.touch?,Option.some.injEq] at hx
 subst hx
 exact ⟨⟨a,rfl,h⟩,by simp⟩
theorem all_said_read {Wg:Nat} (a:Addr) (h:a.block=Wg):∀e∈#[(⟨.mark (.read a),false,true⟩:Event)],Ev1 Wg e:=fun e he=>by
 rw [Array.mem_singleton] at he
 subst he
 exact ev1_said_read a h
theorem all_said_write {Wg:Nat} (a:Addr) (h:a.block=Wg):∀e∈#[(⟨.mark (.write a),false,true⟩:Event)],Ev1 Wg e:=fun e he=>by
 rw [Array.mem_singleton] at he
 subst he
 exact ev1_said_write a h
section
variable [Payload] {L:WgLink} {P:Program} {SB:Nat -> Prop} {Wg C Low:Nat} {W:WSpec P SB L.tWg Wg C Low} {w0:World} {o1:Obj} {Next:Goroutine -> World -> Prop}
 {b₀:Frame} {a₀:Act} {ops₀:Array Oper} {i₀:Nat} {rest₀:List Nat} {k₀:List Item} {cs:List Frame} {mT:Nat}
set_option maxRecDepth 100000 in
set_option maxHeartbeats 8000000 in
theorem addPos0 (H:WgLib P L)
   (hT:∀w,WgLive L.tWg Wg w -> Goes P true (R0 L.tWg Wg) (D0 Wg) (AtGoS P L.tWg Wg W w0 o1 Next) mT (G (b₀.at (a₀.put ((ops₀[i₀]?).bind (·.dst)) (.tuple #[])) (.inRegion ops₀ rest₀::k₀)) cs) w)
   (w:World) (hF:WgLive L.tWg Wg w):
   Goes P true (R0 L.tWg Wg) (D0 Wg) (AtKdS P L.tWg Wg W w0 o1 Next) 12
     (G ((base L.add).at ⟨#[.pointer (some ⟨Wg,0,none⟩),.int .i64 1,undef,undef,undef,undef,undef,undef,undef,undef,undef,undef,undef,undef,undef,undef,undef,undef,undef,undef,undef,undef,undef,undef,undef,undef,undef,undef,undef,undef,undef,undef,undef,undef,undef,undef,undef,undef,undef,undef,undef,undef,undef,undef,undef,undef,undef,undef,undef,undef,undef,undef,undef,undef,undef,undef,undef,undef,undef,undef,undef,undef,undef,undef,undef,undef,undef,undef,undef,undef,undef,undef,undef,undef,undef,undef,undef,undef,undef,undef,undef,undef,undef,undef,undef,undef,undef,undef,undef,undef,undef,undef,undef,undef,undef,undef,undef,undef,undef,undef,undef,undef,undef,undef,undef,undef,undef,undef,undef,undef,undef,undef,undef,undef,undef,undef,undef],[]⟩ [.code (body_add L)]) (b₀.at a₀ (.inRegion ops₀ (i₀::rest₀)::k₀)::cs)) w:=by
 lib_facts
 simp only [body_add,addFn,Option.getD_some]
 (refine Goes.step rfl (fun _ hq=> ?_);replace hF:=hq hF;clear hq;rw [stepG_seq];simp only [goes_go];refine ⟨d0_nil,?_⟩)
 (refine Goes.step rfl (fun _ hq=> ?_);replace hF:=hq hF;clear hq;rw [stepG_cond (t:=true) (rfl)];simp only [goes_go,↓reduceIte];refine ⟨d0_nil,?_⟩)
 iterate 6 (refine Goes.step rfl (fun _ hq => ?_); replace hF := hq hF; clear hq; first | (rw [stepG_seq]; simp only [goes_go]; refine ⟨d0_nil, ?_⟩) | (rw [stepG_region_end]; simp only [goes_go]; refine ⟨d0_nil, ?_⟩) | (rw [stepG_region]; simp only [goes_go, List.size_toArray, List.length_cons, List.length_nil, Nat.zero_add]; (try simp only [Nat.reduceAdd]); simp only [List.range, List.range.loop]; refine ⟨d0_nil, ?_⟩) | (refine goes_oper_k rfl rfl (by k_ne) (fun K hK => ?_); go_simp; refine hK _ _ ⟨d0_none (fun e he => by have hm := mem_listed he; simp [go_sem, *] at hm), ?_⟩; clear hK K; try w_num))
 (refine Goes.step rfl (fun _ hq=> ?_);replace hF:=hq hF;clear hq;rw [stepG_cond (t:=false) (rfl)];simp only [goes_go,Bool.false_eq_true,↓reduceIte];refine ⟨d0_nil,?_⟩)
 iterate 3 (refine Goes.step rfl (fun _ hq=> ?_);replace hF:=hq hF;clear hq;first | (rw [stepG_seq];simp only [goes_go];refine ⟨d0_nil,?_⟩) | (rw [stepG_region];simp only [goes_go,List.size_toArray,List.length_cons,List.length_nil,Nat.zero_add];(try simp only [Nat.reduceAdd]);simp only [List.range,List.range.loop];refine ⟨d0_nil,?_⟩) | (rw [stepG_skip];simp only [goes_go];refine ⟨d0_nil,?_⟩))
 refine Goes.stop (fun w1 h1=> ?_)
 replace hF:=h1 hF
 clear h1
 refine ⟨rfl,_,stepG_mark0 .disable (by simp) rfl rfl (by k_ne) rfl H.f_disable (x_disable_n L) (x_disable_b L) (x_disable_x L) (x_disable_f L),40,?_⟩
 walk_nrm
 iterate 2 (refine Goes.step rfl (fun _ hq=> ?_);replace hF:=hq hF;clear hq;first | (rw [stepG_region_end];simp only [goes_go];refine ⟨d0_nil,?_⟩) | (rw [stepG_region];simp only [goes_go,List.size_toArray,List.length_cons,List.length_nil,Nat.zero_add];(try simp only [Nat.reduceAdd]);simp only [List.range,List.range.loop];refine ⟨d0_nil,?_⟩))
 (refine Goes.step rfl (fun _ hq=> ?_);replace hF:=hq hF;clear hq;rw [stepG_defer rfl rfl (by k_ne) rfl];simp only [goes_go];refine ⟨d0_nil,?_⟩;walk_nrm)
 iterate 8 (refine Goes.step rfl (fun _ hq => ?_); replace hF := hq hF; clear hq; first | (rw [stepG_seq]; simp only [goes_go]; refine ⟨d0_nil, ?_⟩) | (rw [stepG_region_end]; simp only [goes_go]; refine ⟨d0_nil, ?_⟩) | (rw [stepG_region]; simp only [goes_go, List.size_toArray, List.length_cons, List.length_nil, Nat.zero_add]; (try simp only [Nat.reduceAdd]); simp only [List.range, List.range.loop]; refine ⟨d0_nil, ?_⟩) | (refine goes_oper_k rfl rfl (by k_ne) (fun K hK => ?_); go_simp; refine hK _ _ ⟨d0_none (fun e he => by have hm := mem_listed he; simp [go_sem, *] at hm), ?_⟩; clear hK K; try w_num))
 (refine Goes.step rfl (fun _ hq=> ?_);replace hF:=hq hF;clear hq;rw [stepG_entry_pure (.bool false) rfl rfl (by k_ne) rfl H.f_inBubble (x_inBubble_n L) (x_inBubble_b L) (x_inBubble_x L) (x_inBubble_f L)];simp only [goes_go];refine ⟨d0_nil,?_⟩;walk_nrm)
 (refine Goes.step rfl (fun _ hq=> ?_);replace hF:=hq hF;clear hq;rw [stepG_region_end];simp only [goes_go];refine ⟨d0_nil,?_⟩)
 (refine Goes.step rfl (fun _ hq=> ?_);replace hF:=hq hF;clear hq;rw [stepG_cond (t:=false) (rfl)];simp only [goes_go,Bool.false_eq_true,↓reduceIte];refine ⟨d0_nil,?_⟩)
 iterate 9 (refine Goes.step rfl (fun _ hq => ?_); replace hF := hq hF; clear hq; first | (rw [stepG_seq]; simp only [goes_go]; refine ⟨d0_nil, ?_⟩) | (rw [stepG_region]; simp only [goes_go, List.size_toArray, List.length_cons, List.length_nil, Nat.zero_add]; (try simp only [Nat.reduceAdd]); simp only [List.range, List.range.loop]; refine ⟨d0_nil, ?_⟩) | (rw [stepG_skip]; simp only [goes_go]; refine ⟨d0_nil, ?_⟩) | (refine goes_oper_k rfl rfl (by k_ne) (fun K hK => ?_); go_simp; refine hK _ _ ⟨d0_none (fun e he => by have hm := mem_listed he; simp [go_sem, *] at hm), ?_⟩; clear hK K; try w_num))
 (refine Goes.step rfl (fun _ hq=> ?_);replace hF:=hq hF;clear hq;refine goes_call rfl rfl (by k_ne) rfl H.f_uAdd (nm_uAdd L) rfl ⟨d0_nil,?_⟩;walk_nrmf uAddFn)
 iterate 10 (refine Goes.step rfl (fun _ hq => ?_); replace hF := hq hF; clear hq; first | (rw [stepG_seq]; simp only [goes_go]; refine ⟨d0_nil, ?_⟩) | (rw [stepG_region_end]; simp only [goes_go]; refine ⟨d0_nil, ?_⟩) | (rw [stepG_region]; simp only [goes_go, List.size_toArray, List.length_cons, List.length_nil, Nat.zero_add]; (try simp only [Nat.reduceAdd]); simp only [List.range, List.range.loop]; refine ⟨d0_nil, ?_⟩) | (refine goes_oper_k rfl rfl (by k_ne) (fun K hK => ?_); go_simp; refine hK _ _ ⟨d0_none (fun e he => by have hm := mem_listed he; simp [go_sem, *] at hm), ?_⟩; clear hK K; try w_num))
 refine Goes.stop (fun w2 h2=> ?_)
 replace hF:=h2 hF
 clear h2
 refine ⟨rfl,fun v hv hw=> ?_⟩
 rcases Nat.eq_zero_or_pos v with rfl | hvp
 · -- the count is now 1
   replace hw:WgAt L.tWg Wg w2 0 0:=by simpa using hw
   have z:(((0:Nat):Int)+1)*KK=KK:=by simp
   rw [z]
   have e0:IntKind.u64.wrap (0+4294967296)=KK:=by decide
   refine ⟨_,(stepG_add_atomic rfl rfl (by k_ne) rfl H.f_addU64 (x_addU64_n L) (x_addU64_b L) (x_addU64_x L) .u64 (x_addU64_f L) rfl rfl hw.cellSt (hw.thaw 0)).trans (by rw [e0];rfl),110,?_⟩
   replace hF:WgLive L.tWg Wg (w2.setCell (stA Wg) (.int .u64 KK)):=⟨_,_,hw.setSt _⟩
   clear hw
   simp only [KK] at hF ⊢
   walk_nrm
   iterate 2 (refine Goes.step rfl (fun _ hq => ?_); replace hF := hq hF; clear hq; first | (rw [stepG_region_end]; simp only [goes_go]; refine ⟨d0_nil, ?_⟩) | (refine goes_oper_k rfl rfl (by k_ne) (fun K hK => ?_); go_simp; refine hK _ _ ⟨d0_none (fun e he => by have hm := mem_listed he; simp [go_sem, *] at hm), ?_⟩; clear hK K; try w_num))
   (refine Goes.step rfl (fun _ hq=> ?_);replace hF:=hq hF;clear hq;rw [stepG_ret'];simp only [goes_go];refine ⟨d0_nil,?_⟩)
   (refine Goes.step rfl (fun _ hq=> ?_);replace hF:=hq hF;clear hq;refine goes_leave1 rfl rfl H.f_uAdd rfl ⟨d0_nil,?_⟩;walk_nrm)
   iterate 9 (refine Goes.step rfl (fun _ hq => ?_); replace hF := hq hF; clear hq; first | (rw [stepG_seq]; simp only [goes_go]; refine ⟨d0_nil, ?_⟩) | (rw [stepG_region_end]; simp only [goes_go]; refine ⟨d0_nil, ?_⟩) | (rw [stepG_region]; simp only [goes_go, List.size_toArray, List.length_cons, List.length_nil, Nat.zero_add]; (try simp only [Nat.reduceAdd]); simp only [List.range, List.range.loop]; refine ⟨d0_nil, ?_⟩) | (refine goes_oper_k rfl rfl (by k_ne) (fun K hK => ?_); go_simp; refine hK _ _ ⟨d0_none (fun e he => by have hm := mem_listed he; simp [go_sem, *] at hm), ?_⟩; clear hK K; try w_num))
   (refine Goes.step rfl (fun _ hq=> ?_);replace hF:=hq hF;clear hq;rw [stepG_unwanted rfl rfl];simp only [goes_go];refine ⟨d0_nil,?_⟩;walk_nrm)
   (refine Goes.step rfl (fun _ hq=> ?_);replace hF:=hq hF;clear hq;rw [stepG_unwanted rfl rfl];simp only [goes_go];refine ⟨d0_nil,?_⟩;walk_nrm)
   iterate 2 (refine Goes.step rfl (fun _ hq => ?_); replace hF := hq hF; clear hq; first | (rw [stepG_region_end]; simp only [goes_go]; refine ⟨d0_nil, ?_⟩) | (refine goes_oper_k rfl rfl (by k_ne) (fun K hK => ?_); go_simp; refine hK _ _ ⟨d0_none (fun e he => by have hm := mem_listed he; simp [go_sem, *] at hm), ?_⟩; clear hK K; try w_num))
   (refine Goes.step rfl (fun _ hq=> ?_);replace hF:=hq hF;clear hq;rw [stepG_cond (t:=false) (rfl)];simp only [goes_go,Bool.false_eq_true,↓reduceIte];refine ⟨d0_nil,?_⟩)
   iterate 29 (refine Goes.step rfl (fun _ hq => ?_); replace hF := hq hF; clear hq; first | (rw [stepG_seq]; simp only [goes_go]; refine ⟨d0_nil, ?_⟩) | (rw [stepG_region_end]; simp only [goes_go]; refine ⟨d0_nil, ?_⟩) | (rw [stepG_region]; simp only [goes_go, List.size_toArray, List.length_cons, List.length_nil, Nat.zero_add]; (try simp only [Nat.reduceAdd]); simp only [List.range, List.range.loop]; refine ⟨d0_nil, ?_⟩) | (rw [stepG_skip]; simp only [goes_go]; refine ⟨d0_nil, ?_⟩) | (refine goes_oper_k rfl rfl (by k_ne) (fun K hK => ?_); go_simp; refine hK _ _ ⟨d0_none (fun e he => by have hm := mem_listed he; simp [go_sem, *] at hm), ?_⟩; clear hK K; try w_num))
   (refine Goes.step rfl (fun _ hq=> ?_);replace hF:=hq hF;clear hq;rw [stepG_cond (t:=true) (rfl)];simp only [goes_go,↓reduceIte];refine ⟨d0_nil,?_⟩)
   iterate 4 (refine Goes.step rfl (fun _ hq => ?_); replace hF := hq hF; clear hq; first | (rw [stepG_region]; simp only [goes_go, List.size_toArray, List.length_cons, List.length_nil, Nat.zero_add]; (try simp only [Nat.reduceAdd]); simp only [List.range, List.range.loop]; refine ⟨d0_nil, ?_⟩) | (refine goes_oper_k rfl rfl (by k_ne) (fun K hK => ?_); go_simp; refine hK _ _ ⟨d0_none (fun e he => by have hm := mem_listed he; simp [go_sem, *] at hm), ?_⟩; clear hK K; try w_num))
   (refine Goes.step rfl (fun _ hq=> ?_);replace hF:=hq hF;clear hq;refine goes_oper_k rfl rfl (by k_ne) (fun Kx hKx=> ?_);have hcv:=run_convert_to_unsafe (P:=P) H.underlying_tPU32 H.underlying_tUP H.room_tU32 (WgLive.cell1 hF).choose_spec;have hce:=fun es=>events_convert_to_unsafe (P:=P) H.underlying_tPU32 H.underlying_tUP H.room_tU32 (WgLive.cell1 hF).choose_spec es;go_simp;refine hKx _ _ ⟨d0_none (fun ex hex=>by have hmx:=mem_listed hex;simp [go_sem,hce] at hmx),?_⟩;clear hKx Kx hcv hce)
   (refine Goes.step rfl (fun _ hq=> ?_);replace hF:=hq hF;clear hq;rw [stepG_markAt .read (by simp) rfl rfl (by k_ne) rfl H.f_raceRead (x_raceRead_n L) (x_raceRead_b L) (x_raceRead_x L) (x_raceRead_f L) (ad:=⟨_,1,none⟩) (by simp [Act.eval]<;>rfl)];simp only [goes_go];refine ⟨⟨rfl,all_said_read _ rfl⟩,?_⟩;walk_nrm)
   iterate 7 (refine Goes.step rfl (fun _ hq => ?_); replace hF := hq hF; clear hq; first | (rw [stepG_seq]; simp only [goes_go]; refine ⟨d0_nil, ?_⟩) | (rw [stepG_region_end]; simp only [goes_go]; refine ⟨d0_nil, ?_⟩) | (rw [stepG_region]; simp only [goes_go, List.size_toArray, List.length_cons, List.length_nil, Nat.zero_add]; (try simp only [Nat.reduceAdd]); simp only [List.range, List.range.loop]; refine ⟨d0_nil, ?_⟩) | (refine goes_oper_k rfl rfl (by k_ne) (fun K hK => ?_); go_simp; refine hK _ _ ⟨d0_none (fun e he => by have hm := mem_listed he; simp [go_sem, *] at hm), ?_⟩; clear hK K; try w_num))
   (refine Goes.step rfl (fun _ hq=> ?_);replace hF:=hq hF;clear hq;rw [stepG_cond (t:=false) (rfl)];simp only [goes_go,Bool.false_eq_true,↓reduceIte];refine ⟨d0_nil,?_⟩)
   iterate 7 (refine Goes.step rfl (fun _ hq => ?_); replace hF := hq hF; clear hq; first | (rw [stepG_seq]; simp only [goes_go]; refine ⟨d0_nil, ?_⟩) | (rw [stepG_region]; simp only [goes_go, List.size_toArray, List.length_cons, List.length_nil, Nat.zero_add]; (try simp only [Nat.reduceAdd]); simp only [List.range, List.range.loop]; refine ⟨d0_nil, ?_⟩) | (rw [stepG_skip]; simp only [goes_go]; refine ⟨d0_nil, ?_⟩) | (refine goes_oper_k rfl rfl (by k_ne) (fun K hK => ?_); go_simp; refine hK _ _ ⟨d0_none (fun e he => by have hm := mem_listed he; simp [go_sem, *] at hm), ?_⟩; clear hK K; try w_num))
   (refine Goes.step rfl (fun _ hq=> ?_);replace hF:=hq hF;clear hq;rw [stepG_unwanted rfl rfl];simp only [goes_go];refine ⟨d0_nil,?_⟩;walk_nrm)
   (refine Goes.step rfl (fun _ hq=> ?_);replace hF:=hq hF;clear hq;rw [stepG_unwanted rfl rfl];simp only [goes_go];refine ⟨d0_nil,?_⟩;walk_nrm)
   iterate 2 (refine Goes.step rfl (fun _ hq => ?_); replace hF := hq hF; clear hq; refine goes_oper_k rfl rfl (by k_ne) (fun K hK => ?_); go_simp; refine hK _ _ ⟨d0_none (fun e he => by have hm := mem_listed he; simp [go_sem, *] at hm), ?_⟩; clear hK K; try w_num)
   (refine Goes.step rfl (fun _ hq=> ?_);replace hF:=hq hF;clear hq;rw [stepG_unwanted rfl rfl];simp only [goes_go];refine ⟨d0_nil,?_⟩;walk_nrm)
   (refine Goes.step rfl (fun _ hq=> ?_);replace hF:=hq hF;clear hq;rw [stepG_unwanted rfl rfl];simp only [goes_go];refine ⟨d0_nil,?_⟩;walk_nrm)
   (refine Goes.step rfl (fun _ hq=> ?_);replace hF:=hq hF;clear hq;rw [stepG_unwanted rfl rfl];simp only [goes_go];refine ⟨d0_nil,?_⟩;walk_nrm)
   (refine Goes.step rfl (fun _ hq=> ?_);replace hF:=hq hF;clear hq;rw [stepG_unwanted rfl rfl];simp only [goes_go];refine ⟨d0_nil,?_⟩;walk_nrm)
   iterate 2 (refine Goes.step rfl (fun _ hq => ?_); replace hF := hq hF; clear hq; first | (rw [stepG_region_end]; simp only [goes_go]; refine ⟨d0_nil, ?_⟩) | (refine goes_oper_k rfl rfl (by k_ne) (fun K hK => ?_); go_simp; refine hK _ _ ⟨d0_none (fun e he => by have hm := mem_listed he; simp [go_sem, *] at hm), ?_⟩; clear hK K; try w_num))
   (refine Goes.step rfl (fun _ hq=> ?_);replace hF:=hq hF;clear hq;rw [stepG_cond (t:=false) (rfl)];simp only [goes_go,Bool.false_eq_true,↓reduceIte];refine ⟨d0_nil,?_⟩)
   iterate 7 (refine Goes.step rfl (fun _ hq => ?_); replace hF := hq hF; clear hq; first | (rw [stepG_seq]; simp only [goes_go]; refine ⟨d0_nil, ?_⟩) | (rw [stepG_region]; simp only [goes_go, List.size_toArray, List.length_cons, List.length_nil, Nat.zero_add]; (try simp only [Nat.reduceAdd]); simp only [List.range, List.range.loop]; refine ⟨d0_nil, ?_⟩) | (rw [stepG_skip]; simp only [goes_go]; refine ⟨d0_nil, ?_⟩) | (refine goes_oper_k rfl rfl (by k_ne) (fun K hK => ?_); go_simp; refine hK _ _ ⟨d0_none (fun e he => by have hm := mem_listed he; simp [go_sem, *] at hm), ?_⟩; clear hK K; try w_num))
   (refine Goes.step rfl (fun _ hq=> ?_);replace hF:=hq hF;clear hq;rw [stepG_unwanted rfl rfl];simp only [goes_go];refine ⟨d0_nil,?_⟩;walk_nrm)
   (refine Goes.step rfl (fun _ hq=> ?_);replace hF:=hq hF;clear hq;rw [stepG_unwanted rfl rfl];simp only [goes_go];refine ⟨d0_nil,?_⟩;walk_nrm)
   iterate 2 (refine Goes.step rfl (fun _ hq => ?_); replace hF := hq hF; clear hq; first | (rw [stepG_region_end]; simp only [goes_go]; refine ⟨d0_nil, ?_⟩) | (refine goes_oper_k rfl rfl (by k_ne) (fun K hK => ?_); go_simp; refine hK _ _ ⟨d0_none (fun e he => by have hm := mem_listed he; simp [go_sem, *] at hm), ?_⟩; clear hK K; try w_num))
   (refine Goes.step rfl (fun _ hq=> ?_);replace hF:=hq hF;clear hq;rw [stepG_cond (t:=true) (rfl)];simp only [goes_go,↓reduceIte];refine ⟨d0_nil,?_⟩)
   (refine Goes.step rfl (fun _ hq=> ?_);replace hF:=hq hF;clear hq;rw [stepG_ret'];simp only [goes_go];refine ⟨d0_nil,?_⟩)
   refine Goes.stop (fun w3 h3=> ?_)
   replace hF:=h3 hF
   clear h3
   refine ⟨rfl,_,stepG_unwind_entry (v:= .tuple #[]) (evs:=#[mk .enable]) rfl H.f_enable (x_enable_n L) (x_enable_b L) (x_enable_x L) (x_enable_f L) (by simp [Extern.Race.none_]) (by simp [mk]) (by simp [mk]),mT+1,?_⟩
   (refine Goes.step rfl (fun _ hq=> ?_);replace hF:=hq hF;clear hq;refine goes_leave0 rfl rfl H.f_add rfl ⟨d0_nil,?_⟩;walk_nrm)
   exact hT _ hF
 · -- it is more
   obtain ⟨V,hV⟩:∃V:Int,V=(v:Int)+1:=⟨_,rfl⟩
   obtain ⟨S,hS⟩:∃S:Int,S=V*KK:=⟨_,rfl⟩
   have eS:IntKind.u64.wrap ((v:Int)*KK+4294967296)=S:=by rw [IntKind.wrap_u64,hS,hV];simp only [KK];omega
   rw [<- hV,<- hS]
   have a1:S/4294967296=V:=by rw [hS];simp only [KK];omega
   have b1:bits .and .u64 S 2147483648=0:=by rw [hS,hV];have:=st_flag (v+1) 0 (by omega) (by omega);simpa [KK] using this
   have b2:bits .and .u64 S 2147483647=0:=by rw [hS,hV];have:=st_waiters (v+1) 0 (by omega) (by omega);simpa [KK] using this
   have c1:IntKind.i32.wrap V=V:=by rw [IntKind.wrap_i32];omega
   have hV1:1<V:=by omega
   have hV2:V<2147483648:=by omega
   have q1:(V==1)=false:=by simp;omega
   have q2:decide (V=1)=false:=decide_eq_false (by omega)
   have q3:decide (V<0)=false:=decide_eq_false (by omega)
   have q4:decide (0<V)=true:=decide_eq_true (by omega)
   have q5:(V==0)=false:=by simp;omega
   have q6:decide (V=0)=false:=decide_eq_false (by omega)
   refine ⟨_,(stepG_add_atomic rfl rfl (by k_ne) rfl H.f_addU64 (x_addU64_n L) (x_addU64_b L) (x_addU64_x L) .u64 (x_addU64_f L) rfl rfl hw.cellSt (hw.thaw 0)).trans (by rw [eS];rfl),110,?_⟩
   replace hF:WgLive L.tWg Wg (w2.setCell (stA Wg) (.int .u64 S)):=⟨_,_,hw.setSt _⟩
   clear hw hS hV eS
   walk_nrm
   iterate 2 (refine Goes.step rfl (fun _ hq => ?_); replace hF := hq hF; clear hq; first | (rw [stepG_region_end]; simp only [goes_go]; refine ⟨d0_nil, ?_⟩) | (refine goes_oper_k rfl rfl (by k_ne) (fun K hK => ?_); go_simp; refine hK _ _ ⟨d0_none (fun e he => by have hm := mem_listed he; simp [go_sem, *] at hm), ?_⟩; clear hK K; try w_num))
   (refine Goes.step rfl (fun _ hq=> ?_);replace hF:=hq hF;clear hq;rw [stepG_ret'];simp only [goes_go];refine ⟨d0_nil,?_⟩)
   (refine Goes.step rfl (fun _ hq=> ?_);replace hF:=hq hF;clear hq;refine goes_leave1 rfl rfl H.f_uAdd rfl ⟨d0_nil,?_⟩;walk_nrm)
   iterate 9 (refine Goes.step rfl (fun _ hq => ?_); replace hF := hq hF; clear hq; first | (rw [stepG_seq]; simp only [goes_go]; refine ⟨d0_nil, ?_⟩) | (rw [stepG_region_end]; simp only [goes_go]; refine ⟨d0_nil, ?_⟩) | (rw [stepG_region]; simp only [goes_go, List.size_toArray, List.length_cons, List.length_nil, Nat.zero_add]; (try simp only [Nat.reduceAdd]); simp only [List.range, List.range.loop]; refine ⟨d0_nil, ?_⟩) | (refine goes_oper_k rfl rfl (by k_ne) (fun K hK => ?_); go_simp; refine hK _ _ ⟨d0_none (fun e he => by have hm := mem_listed he; simp [go_sem, *] at hm), ?_⟩; clear hK K; try w_num))
   (refine Goes.step rfl (fun _ hq=> ?_);replace hF:=hq hF;clear hq;rw [stepG_unwanted rfl rfl];simp only [goes_go];refine ⟨d0_nil,?_⟩;walk_nrm)
   (refine Goes.step rfl (fun _ hq=> ?_);replace hF:=hq hF;clear hq;rw [stepG_unwanted rfl rfl];simp only [goes_go];refine ⟨d0_nil,?_⟩;walk_nrm)
   iterate 2 (refine Goes.step rfl (fun _ hq => ?_); replace hF := hq hF; clear hq; first | (rw [stepG_region_end]; simp only [goes_go]; refine ⟨d0_nil, ?_⟩) | (refine goes_oper_k rfl rfl (by k_ne) (fun K hK => ?_); go_simp; refine hK _ _ ⟨d0_none (fun e he => by have hm := mem_listed he; simp [go_sem, *] at hm), ?_⟩; clear hK K; try w_num))
   (refine Goes.step rfl (fun _ hq=> ?_);replace hF:=hq hF;clear hq;rw [stepG_cond (t:=false) (by first | rfl | (simp [Act.eval];omega))];simp only [goes_go,Bool.false_eq_true,↓reduceIte];refine ⟨d0_nil,?_⟩)
   iterate 29 (refine Goes.step rfl (fun _ hq => ?_); replace hF := hq hF; clear hq; first | (rw [stepG_seq]; simp only [goes_go]; refine ⟨d0_nil, ?_⟩) | (rw [stepG_region_end]; simp only [goes_go]; refine ⟨d0_nil, ?_⟩) | (rw [stepG_region]; simp only [goes_go, List.size_toArray, List.length_cons, List.length_nil, Nat.zero_add]; (try simp only [Nat.reduceAdd]); simp only [List.range, List.range.loop]; refine ⟨d0_nil, ?_⟩) | (rw [stepG_skip]; simp only [goes_go]; refine ⟨d0_nil, ?_⟩) | (refine goes_oper_k rfl rfl (by k_ne) (fun K hK => ?_); go_simp; refine hK _ _ ⟨d0_none (fun e he => by have hm := mem_listed he; simp [go_sem, *] at hm), ?_⟩; clear hK K; try w_num))
   (refine Goes.step rfl (fun _ hq=> ?_);replace hF:=hq hF;clear hq;rw [stepG_cond (t:=false) (by first | rfl | (simp [Act.eval];omega))];simp only [goes_go,Bool.false_eq_true,↓reduceIte];refine ⟨d0_nil,?_⟩)
   iterate 7 (refine Goes.step rfl (fun _ hq => ?_); replace hF := hq hF; clear hq; first | (rw [stepG_seq]; simp only [goes_go]; refine ⟨d0_nil, ?_⟩) | (rw [stepG_region_end]; simp only [goes_go]; refine ⟨d0_nil, ?_⟩) | (rw [stepG_region]; simp only [goes_go, List.size_toArray, List.length_cons, List.length_nil, Nat.zero_add]; (try simp only [Nat.reduceAdd]); simp only [List.range, List.range.loop]; refine ⟨d0_nil, ?_⟩) | (rw [stepG_skip]; simp only [goes_go]; refine ⟨d0_nil, ?_⟩) | (refine goes_oper_k rfl rfl (by k_ne) (fun K hK => ?_); go_simp; refine hK _ _ ⟨d0_none (fun e he => by have hm := mem_listed he; simp [go_sem, *] at hm), ?_⟩; clear hK K; try w_num))
   (refine Goes.step rfl (fun _ hq=> ?_);replace hF:=hq hF;clear hq;rw [stepG_cond (t:=false) (by first | rfl | (simp [Act.eval];omega))];simp only [goes_go,Bool.false_eq_true,↓reduceIte];refine ⟨d0_nil,?_⟩)
   iterate 7 (refine Goes.step rfl (fun _ hq => ?_); replace hF := hq hF; clear hq; first | (rw [stepG_seq]; simp only [goes_go]; refine ⟨d0_nil, ?_⟩) | (rw [stepG_region]; simp only [goes_go, List.size_toArray, List.length_cons, List.length_nil, Nat.zero_add]; (try simp only [Nat.reduceAdd]); simp only [List.range, List.range.loop]; refine ⟨d0_nil, ?_⟩) | (rw [stepG_skip]; simp only [goes_go]; refine ⟨d0_nil, ?_⟩) | (refine goes_oper_k rfl rfl (by k_ne) (fun K hK => ?_); go_simp; refine hK _ _ ⟨d0_none (fun e he => by have hm := mem_listed he; simp [go_sem, *] at hm), ?_⟩; clear hK K; try w_num))
   (refine Goes.step rfl (fun _ hq=> ?_);replace hF:=hq hF;clear hq;rw [stepG_unwanted rfl rfl];simp only [goes_go];refine ⟨d0_nil,?_⟩;walk_nrm)
   (refine Goes.step rfl (fun _ hq=> ?_);replace hF:=hq hF;clear hq;rw [stepG_unwanted rfl rfl];simp only [goes_go];refine ⟨d0_nil,?_⟩;walk_nrm)
   iterate 2 (refine Goes.step rfl (fun _ hq => ?_); replace hF := hq hF; clear hq; refine goes_oper_k rfl rfl (by k_ne) (fun K hK => ?_); go_simp; refine hK _ _ ⟨d0_none (fun e he => by have hm := mem_listed he; simp [go_sem, *] at hm), ?_⟩; clear hK K; try w_num)
   (refine Goes.step rfl (fun _ hq=> ?_);replace hF:=hq hF;clear hq;rw [stepG_unwanted rfl rfl];simp only [goes_go];refine ⟨d0_nil,?_⟩;walk_nrm)
   (refine Goes.step rfl (fun _ hq=> ?_);replace hF:=hq hF;clear hq;rw [stepG_unwanted rfl rfl];simp only [goes_go];refine ⟨d0_nil,?_⟩;walk_nrm)
   (refine Goes.step rfl (fun _ hq=> ?_);replace hF:=hq hF;clear hq;rw [stepG_unwanted rfl rfl];simp only [goes_go];refine ⟨d0_nil,?_⟩;walk_nrm)
   (refine Goes.step rfl (fun _ hq=> ?_);replace hF:=hq hF;clear hq;rw [stepG_unwanted rfl rfl];simp only [goes_go];refine ⟨d0_nil,?_⟩;walk_nrm)
   iterate 2 (refine Goes.step rfl (fun _ hq => ?_); replace hF := hq hF; clear hq; first | (rw [stepG_region_end]; simp only [goes_go]; refine ⟨d0_nil, ?_⟩) | (refine goes_oper_k rfl rfl (by k_ne) (fun K hK => ?_); go_simp; refine hK _ _ ⟨d0_none (fun e he => by have hm := mem_listed he; simp [go_sem, *] at hm), ?_⟩; clear hK K; try w_num))
   (refine Goes.step rfl (fun _ hq=> ?_);replace hF:=hq hF;clear hq;rw [stepG_cond (t:=false) (by first | rfl | (simp [Act.eval];omega))];simp only [goes_go,Bool.false_eq_true,↓reduceIte];refine ⟨d0_nil,?_⟩)
   iterate 7 (refine Goes.step rfl (fun _ hq => ?_); replace hF := hq hF; clear hq; first | (rw [stepG_seq]; simp only [goes_go]; refine ⟨d0_nil, ?_⟩) | (rw [stepG_region]; simp only [goes_go, List.size_toArray, List.length_cons, List.length_nil, Nat.zero_add]; (try simp only [Nat.reduceAdd]); simp only [List.range, List.range.loop]; refine ⟨d0_nil, ?_⟩) | (rw [stepG_skip]; simp only [goes_go]; refine ⟨d0_nil, ?_⟩) | (refine goes_oper_k rfl rfl (by k_ne) (fun K hK => ?_); go_simp; refine hK _ _ ⟨d0_none (fun e he => by have hm := mem_listed he; simp [go_sem, *] at hm), ?_⟩; clear hK K; try w_num))
   (refine Goes.step rfl (fun _ hq=> ?_);replace hF:=hq hF;clear hq;rw [stepG_unwanted rfl rfl];simp only [goes_go];refine ⟨d0_nil,?_⟩;walk_nrm)
   (refine Goes.step rfl (fun _ hq=> ?_);replace hF:=hq hF;clear hq;rw [stepG_unwanted rfl rfl];simp only [goes_go];refine ⟨d0_nil,?_⟩;walk_nrm)
   iterate 2 (refine Goes.step rfl (fun _ hq => ?_); replace hF := hq hF; clear hq; first | (rw [stepG_region_end]; simp only [goes_go]; refine ⟨d0_nil, ?_⟩) | (refine goes_oper_k rfl rfl (by k_ne) (fun K hK => ?_); go_simp; refine hK _ _ ⟨d0_none (fun e he => by have hm := mem_listed he; simp [go_sem, *] at hm), ?_⟩; clear hK K; try w_num))
   (refine Goes.step rfl (fun _ hq=> ?_);replace hF:=hq hF;clear hq;rw [stepG_cond (t:=true) (by first | rfl | (simp [Act.eval];omega))];simp only [goes_go,↓reduceIte];refine ⟨d0_nil,?_⟩)
   (refine Goes.step rfl (fun _ hq=> ?_);replace hF:=hq hF;clear hq;rw [stepG_ret'];simp only [goes_go];refine ⟨d0_nil,?_⟩)
   refine Goes.stop (fun w3 h3=> ?_)
   replace hF:=h3 hF
   clear h3
   refine ⟨rfl,_,stepG_unwind_entry (v:= .tuple #[]) (evs:=#[mk .enable]) rfl H.f_enable (x_enable_n L) (x_enable_b L) (x_enable_x L) (x_enable_f L) (by simp [Extern.Race.none_]) (by simp [mk]) (by simp [mk]),mT+1,?_⟩
   (refine Goes.step rfl (fun _ hq=> ?_);replace hF:=hq hF;clear hq;refine goes_leave0 rfl rfl H.f_add rfl ⟨d0_nil,?_⟩;walk_nrm)
   exact hT _ hF
end
def Anch0 (L:WgLink) (Wg:Nat) (c:Frame) (cs:List Frame) (g:Goroutine) (w:World):Prop:=
 ∃T:Array Value,g=G ((base L.wait).at ⟨T,[]⟩ [.code (L7 L),.inLoop (L7 L),.inBlock 0]) (c::cs) /\ T.size=84 /\ T[0]? =some (.pointer (some ⟨Wg,0,none⟩)) /\ WgLive L.tWg Wg w
section
variable {L:WgLink} {P:Program} {Wg:Nat} {c:Frame} {cs:List Frame}
set_option maxRecDepth 100000 in
theorem waitStart0 (H:WgLib P L) (w:World) (hF:WgLive L.tWg Wg w):
   Goes P true (R0 L.tWg Wg) (D0 Wg) (AtKd P L.tWg Wg (Anch0 L Wg c cs)) 3
     (G ((base L.wait).at ⟨#[.pointer (some ⟨Wg,0,none⟩),undef,undef,undef,undef,undef,undef,undef,undef,undef,undef,undef,undef,undef,undef,undef,undef,undef,undef,undef,undef,undef,undef,undef,undef,undef,undef,undef,undef,undef,undef,undef,undef,undef,undef,undef,undef,undef,undef,undef,undef,undef,undef,undef,undef,undef,undef,undef,undef,undef,undef,undef,undef,undef,undef,undef,undef,undef,undef,undef,undef,undef,undef,undef,undef,undef,undef,undef,undef,undef,undef,undef,undef,undef,undef,undef,undef,undef,undef,undef,undef,undef,undef,undef],[]⟩ [.code (body_wait L)]) (c::cs)) w:=by
 lib_facts
 simp only [body_wait,waitFn,Option.getD_some]
 (refine Goes.step rfl (fun _ hq=> ?_);replace hF:=hq hF;clear hq;rw [stepG_seq];simp only [goes_go];refine ⟨d0_nil,?_⟩)
 (refine Goes.step rfl (fun _ hq=> ?_);replace hF:=hq hF;clear hq;rw [stepG_cond (t:=true) (rfl)];simp only [goes_go,↓reduceIte];refine ⟨d0_nil,?_⟩)
 (refine Goes.step rfl (fun _ hq=> ?_);replace hF:=hq hF;clear hq;rw [stepG_region];simp only [goes_go,List.size_toArray,List.length_cons,List.length_nil,Nat.zero_add];(try simp only [Nat.reduceAdd]);simp only [List.range,List.range.loop];refine ⟨d0_nil,?_⟩)
 refine Goes.stop (fun w1 h1=> ?_)
 replace hF:=h1 hF
 clear h1
 refine ⟨rfl,_,stepG_mark0 .disable (by simp) rfl rfl (by k_ne) rfl H.f_disable (x_disable_n L) (x_disable_b L) (x_disable_x L) (x_disable_f L),3,?_⟩
 walk_nrm
 (refine Goes.step rfl (fun _ hq=> ?_);replace hF:=hq hF;clear hq;rw [stepG_region_end];simp only [goes_go];refine ⟨d0_nil,?_⟩)
 (refine Goes.step rfl (fun _ hq=> ?_);replace hF:=hq hF;clear hq;rw [stepG_block];simp only [goes_go];refine ⟨d0_nil,?_⟩)
 (refine Goes.step rfl (fun _ hq=> ?_);replace hF:=hq hF;clear hq;rw [stepG_loop];simp only [goes_go];refine ⟨d0_nil,?_⟩)
 exact Goes.stop (fun w2 h2=>⟨_,rfl,by simp,by simp,h2 hF⟩)
def OutW (L:WgLink) (P:Program) (SB:Nat -> Prop) (Wg:Nat) (r:Goroutine) (g:Goroutine):Prop:=
 ∃m,∀w,WgLive L.tWg Wg w -> Goes P true AtRel (DF SB) (fun g' w' =>g' =r /\ AtRel w w') m g w
end
section
variable {L:WgLink} {P:Program} {SB:Nat -> Prop} {Wg:Nat}
 {b₀:Frame} {a₀:Act} {ops₀:Array Oper} {i₀:Nat} {rest₀:List Nat} {k₀:List Item} {cs:List Frame}
theorem df_nil {w:World}:DF SB w w #[]:=⟨Nat.le_refl _,by simp⟩
theorem df_none {w:World} {es:Array Event} (h:∀e∈es,False):DF SB w w es:=⟨Nat.le_refl _,fun e he=>(h e he).elim⟩
theorem at_on {w0 w w₁:World} (h:AtRel w0 w) (r:AtRel w w₁):AtRel w0 w₁:=atRel_trans _ _ _ h r
set_option maxRecDepth 100000 in
set_option maxHeartbeats 8000000 in
theorem waitRound0 (H:WgLib P L)
   (g:Goroutine) (w:World) (h:Anch0 L Wg (b₀.at a₀ (.inRegion ops₀ (i₀::rest₀)::k₀)) cs g w):
   ∃m,Goes P true (R0 L.tWg Wg) (D0 Wg) (AtW1 P L.tWg Wg (Anch0 L Wg (b₀.at a₀ (.inRegion ops₀ (i₀::rest₀)::k₀)) cs) (OutW L P SB Wg (G (b₀.at (a₀.put ((ops₀[i₀]?).bind (·.dst)) (.tuple #[])) (.inRegion ops₀ rest₀::k₀)) cs))) m g w:=by
 lib_facts
 obtain ⟨T,rfl,hT84,t0,hF⟩:=h
 obtain ⟨v0,v1,v2,v3,v4,v5,v6,v7,v8,v9,v10,v11,v12,v13,v14,v15,v16,v17,v18,v19,v20,v21,v22,v23,v24,v25,v26,v27,v28,v29,v30,v31,v32,v33,v34,v35,v36,v37,v38,v39,v40,v41,v42,v43,v44,v45,v46,v47,v48,v49,v50,v51,v52,v53,v54,v55,v56,v57,v58,v59,v60,v61,v62,v63,v64,v65,v66,v67,v68,v69,v70,v71,v72,v73,v74,v75,v76,v77,v78,v79,v80,v81,v82,v83,rfl⟩:=array84 T hT84
 simp only [List.getElem?_toArray,List.getElem?_cons_zero,Option.some.injEq] at t0
 subst t0
 refine ⟨30,?_⟩
 simp only [L7,body_wait,waitFn,Option.getD_some]
 (refine Goes.step rfl (fun _ hq=> ?_);replace hF:=hq hF;clear hq;rw [stepG_block];simp only [goes_go];refine ⟨d0_nil,?_⟩)
 iterate 5 (refine Goes.step rfl (fun _ hq => ?_); replace hF := hq hF; clear hq; first | (rw [stepG_seq]; simp only [goes_go]; refine ⟨d0_nil, ?_⟩) | (rw [stepG_region]; simp only [goes_go, List.size_toArray, List.length_cons, List.length_nil, Nat.zero_add]; (try simp only [Nat.reduceAdd]); simp only [List.range, List.range.loop]; refine ⟨d0_nil, ?_⟩) | (refine goes_oper_k rfl rfl (by k_ne) (fun K hK => ?_); go_simp; refine hK _ _ ⟨d0_none (fun e he => by have hm := mem_listed he; simp [go_sem, *] at hm), ?_⟩; clear hK K; try w_num))
 (refine Goes.step rfl (fun _ hq=> ?_);replace hF:=hq hF;clear hq;refine goes_call rfl rfl (by k_ne) rfl H.f_uLoad (nm_uLoad L) rfl ⟨d0_nil,?_⟩;walk_nrmf uLoadFn)
 iterate 9 (refine Goes.step rfl (fun _ hq => ?_); replace hF := hq hF; clear hq; first | (rw [stepG_seq]; simp only [goes_go]; refine ⟨d0_nil, ?_⟩) | (rw [stepG_region_end]; simp only [goes_go]; refine ⟨d0_nil, ?_⟩) | (rw [stepG_region]; simp only [goes_go, List.size_toArray, List.length_cons, List.length_nil, Nat.zero_add]; (try simp only [Nat.reduceAdd]); simp only [List.range, List.range.loop]; refine ⟨d0_nil, ?_⟩) | (refine goes_oper_k rfl rfl (by k_ne) (fun K hK => ?_); go_simp; refine hK _ _ ⟨d0_none (fun e he => by have hm := mem_listed he; simp [go_sem, *] at hm), ?_⟩; clear hK K; try w_num))
 refine Goes.stop (fun w1 h1=> ?_)
 replace hF:=h1 hF
 clear h1
 refine ⟨rfl,fun v hv hw=> ?_⟩
 rcases Nat.eq_zero_or_pos v with rfl | hvp
 · replace hw:WgAt L.tWg Wg w1 0 0:=by simpa using hw
   refine ⟨_,stepG_load_atomic (v:=0) rfl rfl (by k_ne) rfl H.f_loadU64 (x_loadU64_n L) (x_loadU64_b L) (x_loadU64_x L) .u64 (x_loadU64_f L) rfl hw.cellSt,fun _=>⟨50,?_⟩,fun h=>absurd rfl h⟩
   clear hw
   walk_nrm
   iterate 2 (refine Goes.step rfl (fun _ hq => ?_); replace hF := hq hF; clear hq; first | (rw [stepG_region_end]; simp only [goes_go]; refine ⟨d0_nil, ?_⟩) | (refine goes_oper_k rfl rfl (by k_ne) (fun K hK => ?_); go_simp; refine hK _ _ ⟨d0_none (fun e he => by have hm := mem_listed he; simp [go_sem, *] at hm), ?_⟩; clear hK K; try w_num))
   (refine Goes.step rfl (fun _ hq=> ?_);replace hF:=hq hF;clear hq;rw [stepG_ret'];simp only [goes_go];refine ⟨d0_nil,?_⟩)
   (refine Goes.step rfl (fun _ hq=> ?_);replace hF:=hq hF;clear hq;refine goes_leave1 rfl rfl H.f_uLoad rfl ⟨d0_nil,?_⟩;walk_nrm)
   iterate 22 (refine Goes.step rfl (fun _ hq => ?_); replace hF := hq hF; clear hq; first | (rw [stepG_seq]; simp only [goes_go]; refine ⟨d0_nil, ?_⟩) | (rw [stepG_region_end]; simp only [goes_go]; refine ⟨d0_nil, ?_⟩) | (rw [stepG_region]; simp only [goes_go, List.size_toArray, List.length_cons, List.length_nil, Nat.zero_add]; (try simp only [Nat.reduceAdd]); simp only [List.range, List.range.loop]; refine ⟨d0_nil, ?_⟩) | (refine goes_oper_k rfl rfl (by k_ne) (fun K hK => ?_); go_simp; refine hK _ _ ⟨d0_none (fun e he => by have hm := mem_listed he; simp [go_sem, *] at hm), ?_⟩; clear hK K; try w_num))
   (refine Goes.step rfl (fun _ hq=> ?_);replace hF:=hq hF;clear hq;rw [stepG_cond (t:=true) (rfl)];simp only [goes_go,↓reduceIte];refine ⟨d0_nil,?_⟩)
   (refine Goes.step rfl (fun _ hq=> ?_);replace hF:=hq hF;clear hq;rw [stepG_seq];simp only [goes_go];refine ⟨d0_nil,?_⟩)
   (refine Goes.step rfl (fun _ hq=> ?_);replace hF:=hq hF;clear hq;rw [stepG_cond (t:=true) (rfl)];simp only [goes_go,↓reduceIte];refine ⟨d0_nil,?_⟩)
   iterate 2 (refine Goes.step rfl (fun _ hq=> ?_);replace hF:=hq hF;clear hq;first | (rw [stepG_seq];simp only [goes_go];refine ⟨d0_nil,?_⟩) | (rw [stepG_region];simp only [goes_go,List.size_toArray,List.length_cons,List.length_nil,Nat.zero_add];(try simp only [Nat.reduceAdd]);simp only [List.range,List.range.loop];refine ⟨d0_nil,?_⟩))
   refine Goes.stop (fun w5 h5=> ?_)
   replace hF:=h5 hF
   clear h5
   refine ⟨rfl,_,stepG_mark0 .enable (by simp) rfl rfl (by k_ne) rfl H.f_enable (x_enable_n L) (x_enable_b L) (x_enable_x L) (x_enable_f L),12,?_⟩
   walk_nrm
   iterate 3 (refine Goes.step rfl (fun _ hq => ?_); replace hF := hq hF; clear hq; first | (rw [stepG_region_end]; simp only [goes_go]; refine ⟨d0_nil, ?_⟩) | (rw [stepG_region]; simp only [goes_go, List.size_toArray, List.length_cons, List.length_nil, Nat.zero_add]; (try simp only [Nat.reduceAdd]); simp only [List.range, List.range.loop]; refine ⟨d0_nil, ?_⟩) | (refine goes_oper_k rfl rfl (by k_ne) (fun K hK => ?_); go_simp; refine hK _ _ ⟨d0_none (fun e he => by have hm := mem_listed he; simp [go_sem, *] at hm), ?_⟩; clear hK K; try w_num))
   (refine Goes.step rfl (fun _ hq=> ?_);replace hF:=hq hF;clear hq;refine goes_oper_k rfl rfl (by k_ne) (fun Kx hKx=> ?_);have hcv:=run_convert_to_unsafe (P:=P) H.underlying_tWgP H.underlying_tUP H.room_tWg (WgLive.cell0 hF).choose_spec;have hce:=fun es=>events_convert_to_unsafe (P:=P) H.underlying_tWgP H.underlying_tUP H.room_tWg (WgLive.cell0 hF).choose_spec es;go_simp;refine hKx _ _ ⟨d0_none (fun ex hex=>by have hmx:=mem_listed hex;simp [go_sem,hce] at hmx),?_⟩;clear hKx Kx hcv hce)
   refine Goes.stop (fun w6 h6=> ?_)
   replace hF:=h6 hF
   clear h6
   refine ⟨rfl,_,stepG_markAt .acquire (by simp) rfl rfl (by k_ne) rfl H.f_acquire (x_acquire_n L) (x_acquire_b L) (x_acquire_x L) (x_acquire_f L) (by simp [Act.eval,stA]),20,?_⟩
   clear hF
   intro w7 _
   have hF:AtRel w7 w7:=atRel_refl w7
   walk_nrm
   (refine Goes.step rfl (fun _ hq=> ?_);replace hF:=at_on hF hq;clear hq;rw [stepG_region_end];simp only [goes_go];refine ⟨df_nil,?_⟩)
   (refine Goes.step rfl (fun _ hq=> ?_);replace hF:=at_on hF hq;clear hq;rw [stepG_seq];simp only [goes_go];refine ⟨df_nil,?_⟩)
   (refine Goes.step rfl (fun _ hq=> ?_);replace hF:=at_on hF hq;clear hq;rw [stepG_seq];simp only [goes_go];refine ⟨df_nil,?_⟩)
   (refine Goes.step rfl (fun _ hq=> ?_);replace hF:=at_on hF hq;clear hq;rw [stepG_region];simp only [goes_go,List.size_toArray,List.length_cons,List.length_nil,Nat.zero_add];(try simp only [Nat.reduceAdd]);simp only [List.range,List.range.loop];refine ⟨df_nil,?_⟩)
   (refine Goes.step rfl (fun _ hq => ?_); replace hF := at_on hF hq; clear hq; refine goes_oper_k rfl rfl (by k_ne) (fun K hK => ?_); go_simp; refine hK _ _ ⟨df_none (fun e he => by have hm := mem_listed he; simp [go_sem, *] at hm), ?_⟩; clear hK K; try w_num)
   (refine Goes.step rfl (fun _ hq => ?_); replace hF := at_on hF hq; clear hq; refine goes_oper_k rfl rfl (by k_ne) (fun K hK => ?_); go_simp; refine hK _ _ ⟨df_none (fun e he => by have hm := mem_listed he; simp [go_sem, *] at hm), ?_⟩; clear hK K; try w_num)
   (refine Goes.step rfl (fun _ hq => ?_); replace hF := at_on hF hq; clear hq; refine goes_oper_k rfl rfl (by k_ne) (fun K hK => ?_); go_simp; refine hK _ _ ⟨df_none (fun e he => by have hm := mem_listed he; simp [go_sem, *] at hm), ?_⟩; clear hK K; try w_num)
   (refine Goes.step rfl (fun _ hq => ?_); replace hF := at_on hF hq; clear hq; refine goes_oper_k rfl rfl (by k_ne) (fun K hK => ?_); go_simp; refine hK _ _ ⟨df_none (fun e he => by have hm := mem_listed he; simp [go_sem, *] at hm), ?_⟩; clear hK K; try w_num)
   (refine Goes.step rfl (fun _ hq => ?_); replace hF := at_on hF hq; clear hq; refine goes_oper_k rfl rfl (by k_ne) (fun K hK => ?_); go_simp; refine hK _ _ ⟨df_none (fun e he => by have hm := mem_listed he; simp [go_sem, *] at hm), ?_⟩; clear hK K; try w_num)
   (refine Goes.step rfl (fun _ hq => ?_); replace hF := at_on hF hq; clear hq; refine goes_oper_k rfl rfl (by k_ne) (fun K hK => ?_); go_simp; refine hK _ _ ⟨df_none (fun e he => by have hm := mem_listed he; simp [go_sem, *] at hm), ?_⟩; clear hK K; try w_num)
   (refine Goes.step rfl (fun _ hq => ?_); replace hF := at_on hF hq; clear hq; refine goes_oper_k rfl rfl (by k_ne) (fun K hK => ?_); go_simp; refine hK _ _ ⟨df_none (fun e he => by have hm := mem_listed he; simp [go_sem, *] at hm), ?_⟩; clear hK K; try w_num)
   (refine Goes.step rfl (fun _ hq => ?_); replace hF := at_on hF hq; clear hq; refine goes_oper_k rfl rfl (by k_ne) (fun K hK => ?_); go_simp; refine hK _ _ ⟨df_none (fun e he => by have hm := mem_listed he; simp [go_sem, *] at hm), ?_⟩; clear hK K; try w_num)
   (refine Goes.step rfl (fun _ hq=> ?_);replace hF:=at_on hF hq;clear hq;rw [stepG_unwanted rfl rfl];simp only [goes_go];refine ⟨df_nil,?_⟩;walk_nrm)
   (refine Goes.step rfl (fun _ hq=> ?_);replace hF:=at_on hF hq;clear hq;rw [stepG_unwanted rfl rfl];simp only [goes_go];refine ⟨df_nil,?_⟩;walk_nrm)
   (refine Goes.step rfl (fun _ hq => ?_); replace hF := at_on hF hq; clear hq; refine goes_oper_k rfl rfl (by k_ne) (fun K hK => ?_); go_simp; refine hK _ _ ⟨df_none (fun e he => by have hm := mem_listed he; simp [go_sem, *] at hm), ?_⟩; clear hK K; try w_num)
   (refine Goes.step rfl (fun _ hq=> ?_);replace hF:=at_on hF hq;clear hq;rw [stepG_region_end];simp only [goes_go];refine ⟨df_nil,?_⟩)
   (refine Goes.step rfl (fun _ hq=> ?_);replace hF:=at_on hF hq;clear hq;rw [stepG_cond (t:=false) (rfl)];simp only [goes_go,Bool.false_eq_true,↓reduceIte];refine ⟨df_nil,?_⟩)
   (refine Goes.step rfl (fun _ hq=> ?_);replace hF:=at_on hF hq;clear hq;rw [stepG_skip];simp only [goes_go];refine ⟨df_nil,?_⟩)
   (refine Goes.step rfl (fun _ hq=> ?_);replace hF:=at_on hF hq;clear hq;rw [stepG_ret'];simp only [goes_go];refine ⟨df_nil,?_⟩)
   (refine Goes.step rfl (fun _ hq=> ?_);replace hF:=at_on hF hq;clear hq;refine goes_leave0 rfl rfl H.f_wait rfl ⟨df_nil,?_⟩;walk_nrm)
   exact Goes.stop (fun w8 h8=>⟨rfl,at_on hF h8⟩)
 · obtain ⟨S,hS⟩:∃S:Int,(v:Int)*KK=S:=⟨_,rfl⟩
   have a1:S/4294967296=(v:Int):=by rw [<- hS];simp only [KK];omega
   have b1:bits .and .u64 S 2147483648=0:=by rw [<- hS];have:=st_flag v 0 (by omega) (by omega);simpa [KK] using this
   have b2:bits .and .u64 S 2147483647=0:=by rw [<- hS];have:=st_waiters v 0 (by omega) (by omega);simpa [KK] using this
   have c1:IntKind.i32.wrap (v:Int)=(v:Int):=by rw [IntKind.wrap_i32];omega
   have w1' :IntKind.u64.wrap (S+1)=S+1:=by rw [IntKind.wrap_u64,<- hS];simp only [KK];omega
   have q3:decide ((v:Int)<0)=false:=decide_eq_false (by omega)
   have q4:decide (0<(v:Int))=true:=decide_eq_true (by omega)
   have q5:((v:Int)==0)=false:=by simp;omega
   have q6:decide ((v:Int)=0)=false:=decide_eq_false (by omega)
   rw [hS] at hw
   refine ⟨_,stepG_load_atomic (v:=S) rfl rfl (by k_ne) rfl H.f_loadU64 (x_loadU64_n L) (x_loadU64_b L) (x_loadU64_x L) .u64 (x_loadU64_f L) rfl hw.cellSt,fun h0=>absurd h0 (by omega),fun _=>⟨60,?_⟩⟩
   clear hw
   walk_nrm
   iterate 2 (refine Goes.step rfl (fun _ hq => ?_); replace hF := hq hF; clear hq; first | (rw [stepG_region_end]; simp only [goes_go]; refine ⟨d0_nil, ?_⟩) | (refine goes_oper_k rfl rfl (by k_ne) (fun K hK => ?_); go_simp; refine hK _ _ ⟨d0_none (fun e he => by have hm := mem_listed he; simp [go_sem, *] at hm), ?_⟩; clear hK K; try w_num))
   (refine Goes.step rfl (fun _ hq=> ?_);replace hF:=hq hF;clear hq;rw [stepG_ret'];simp only [goes_go];refine ⟨d0_nil,?_⟩)
   (refine Goes.step rfl (fun _ hq=> ?_);replace hF:=hq hF;clear hq;refine goes_leave1 rfl rfl H.f_uLoad rfl ⟨d0_nil,?_⟩;walk_nrm)
   iterate 22 (refine Goes.step rfl (fun _ hq => ?_); replace hF := hq hF; clear hq; first | (rw [stepG_seq]; simp only [goes_go]; refine ⟨d0_nil, ?_⟩) | (rw [stepG_region_end]; simp only [goes_go]; refine ⟨d0_nil, ?_⟩) | (rw [stepG_region]; simp only [goes_go, List.size_toArray, List.length_cons, List.length_nil, Nat.zero_add]; (try simp only [Nat.reduceAdd]); simp only [List.range, List.range.loop]; refine ⟨d0_nil, ?_⟩) | (refine goes_oper_k rfl rfl (by k_ne) (fun K hK => ?_); go_simp; refine hK _ _ ⟨d0_none (fun e he => by have hm := mem_listed he; simp [go_sem, *] at hm), ?_⟩; clear hK K; try w_num))
   (refine Goes.step rfl (fun _ hq=> ?_);replace hF:=hq hF;clear hq;rw [stepG_cond (t:=false) (by first | rfl | (simp [Act.eval];omega))];simp only [goes_go,Bool.false_eq_true,↓reduceIte];refine ⟨d0_nil,?_⟩)
   iterate 9 (refine Goes.step rfl (fun _ hq => ?_); replace hF := hq hF; clear hq; first | (rw [stepG_seq]; simp only [goes_go]; refine ⟨d0_nil, ?_⟩) | (rw [stepG_region]; simp only [goes_go, List.size_toArray, List.length_cons, List.length_nil, Nat.zero_add]; (try simp only [Nat.reduceAdd]); simp only [List.range, List.range.loop]; refine ⟨d0_nil, ?_⟩) | (rw [stepG_skip]; simp only [goes_go]; refine ⟨d0_nil, ?_⟩) | (refine goes_oper_k rfl rfl (by k_ne) (fun K hK => ?_); go_simp; refine hK _ _ ⟨d0_none (fun e he => by have hm := mem_listed he; simp [go_sem, *] at hm), ?_⟩; clear hK K; try w_num))
   (refine Goes.step rfl (fun _ hq=> ?_);replace hF:=hq hF;clear hq;refine goes_call rfl rfl (by k_ne) rfl H.f_uCas (nm_uCas L) rfl ⟨d0_nil,?_⟩;walk_nrmf uCasFn)
   iterate 11 (refine Goes.step rfl (fun _ hq => ?_); replace hF := hq hF; clear hq; first | (rw [stepG_seq]; simp only [goes_go]; refine ⟨d0_nil, ?_⟩) | (rw [stepG_region_end]; simp only [goes_go]; refine ⟨d0_nil, ?_⟩) | (rw [stepG_region]; simp only [goes_go, List.size_toArray, List.length_cons, List.length_nil, Nat.zero_add]; (try simp only [Nat.reduceAdd]); simp only [List.range, List.range.loop]; refine ⟨d0_nil, ?_⟩) | (refine goes_oper_k rfl rfl (by k_ne) (fun K hK => ?_); go_simp; refine hK _ _ ⟨d0_none (fun e he => by have hm := mem_listed he; simp [go_sem, *] at hm), ?_⟩; clear hK K; try w_num))
   refine Goes.stop (fun w2 h2=> ?_)
   replace hF:=h2 hF
   clear h2
   refine ⟨rfl,fun v' hv' hw=>⟨fun e=> ?_,fun e=> ?_⟩⟩
   · subst e
     rw [hS] at hw ⊢
     refine ⟨_,(stepG_cas_hit (v:=S) (n:=S+1) rfl rfl (by k_ne) rfl H.f_casU64 (x_casU64_n L) (x_casU64_b L) (x_casU64_x L) .u64 (x_casU64_f L) rfl rfl rfl hw.cellSt (hw.thaw 0)).trans (by rfl),70,?_⟩
     replace hF:WgLive L.tWg Wg (w2.setCell (stA Wg) (.int .u64 (S+1))):=⟨_,_,hw.setSt _⟩
     clear hw
     walk_nrm
     iterate 2 (refine Goes.step rfl (fun _ hq => ?_); replace hF := hq hF; clear hq; first | (rw [stepG_region_end]; simp only [goes_go]; refine ⟨d0_nil, ?_⟩) | (refine goes_oper_k rfl rfl (by k_ne) (fun K hK => ?_); go_simp; refine hK _ _ ⟨d0_none (fun e he => by have hm := mem_listed he; simp [go_sem, *] at hm), ?_⟩; clear hK K; try w_num))
     (refine Goes.step rfl (fun _ hq=> ?_);replace hF:=hq hF;clear hq;rw [stepG_ret'];simp only [goes_go];refine ⟨d0_nil,?_⟩)
     (refine Goes.step rfl (fun _ hq=> ?_);replace hF:=hq hF;clear hq;refine goes_leave1 rfl rfl H.f_uCas rfl ⟨d0_nil,?_⟩;walk_nrm)
     (refine Goes.step rfl (fun _ hq=> ?_);replace hF:=hq hF;clear hq;rw [stepG_region_end];simp only [goes_go];refine ⟨d0_nil,?_⟩)
     (refine Goes.step rfl (fun _ hq=> ?_);replace hF:=hq hF;clear hq;rw [stepG_cond (t:=true) (rfl)];simp only [goes_go,↓reduceIte];refine ⟨d0_nil,?_⟩)
     iterate 8 (refine Goes.step rfl (fun _ hq => ?_); replace hF := hq hF; clear hq; first | (rw [stepG_seq]; simp only [goes_go]; refine ⟨d0_nil, ?_⟩) | (rw [stepG_region_end]; simp only [goes_go]; refine ⟨d0_nil, ?_⟩) | (rw [stepG_region]; simp only [goes_go, List.size_toArray, List.length_cons, List.length_nil, Nat.zero_add]; (try simp only [Nat.reduceAdd]); simp only [List.range, List.range.loop]; refine ⟨d0_nil, ?_⟩) | (refine goes_oper_k rfl rfl (by k_ne) (fun K hK => ?_); go_simp; refine hK _ _ ⟨d0_none (fun e he => by have hm := mem_listed he; simp [go_sem, *] at hm), ?_⟩; clear hK K; try w_num))
     (refine Goes.step rfl (fun _ hq=> ?_);replace hF:=hq hF;clear hq;rw [stepG_cond (t:=true) (rfl)];simp only [goes_go,↓reduceIte];refine ⟨d0_nil,?_⟩)
     iterate 4 (refine Goes.step rfl (fun _ hq => ?_); replace hF := hq hF; clear hq; first | (rw [stepG_region]; simp only [goes_go, List.size_toArray, List.length_cons, List.length_nil, Nat.zero_add]; (try simp only [Nat.reduceAdd]); simp only [List.range, List.range.loop]; refine ⟨d0_nil, ?_⟩) | (refine goes_oper_k rfl rfl (by k_ne) (fun K hK => ?_); go_simp; refine hK _ _ ⟨d0_none (fun e he => by have hm := mem_listed he; simp [go_sem, *] at hm), ?_⟩; clear hK K; try w_num))
     (refine Goes.step rfl (fun _ hq=> ?_);replace hF:=hq hF;clear hq;refine goes_oper_k rfl rfl (by k_ne) (fun Kx hKx=> ?_);have hcv:=run_convert_to_unsafe (P:=P) H.underlying_tPU32 H.underlying_tUP H.room_tU32 (WgLive.cell1 hF).choose_spec;have hce:=fun es=>events_convert_to_unsafe (P:=P) H.underlying_tPU32 H.underlying_tUP H.room_tU32 (WgLive.cell1 hF).choose_spec es;go_simp;refine hKx _ _ ⟨d0_none (fun ex hex=>by have hmx:=mem_listed hex;simp [go_sem,hce] at hmx),?_⟩;clear hKx Kx hcv hce)
     (refine Goes.step rfl (fun _ hq=> ?_);replace hF:=hq hF;clear hq;rw [stepG_markAt .write (by simp) rfl rfl (by k_ne) rfl H.f_raceWrite (x_raceWrite_n L) (x_raceWrite_b L) (x_raceWrite_x L) (x_raceWrite_f L) (ad:=⟨_,1,none⟩) (by simp [Act.eval]<;>rfl)];simp only [goes_go];refine ⟨⟨rfl,all_said_write _ rfl⟩,?_⟩;walk_nrm)
     iterate 12 (refine Goes.step rfl (fun _ hq => ?_); replace hF := hq hF; clear hq; first | (rw [stepG_seq]; simp only [goes_go]; refine ⟨d0_nil, ?_⟩) | (rw [stepG_region_end]; simp only [goes_go]; refine ⟨d0_nil, ?_⟩) | (rw [stepG_region]; simp only [goes_go, List.size_toArray, List.length_cons, List.length_nil, Nat.zero_add]; (try simp only [Nat.reduceAdd]); simp only [List.range, List.range.loop]; refine ⟨d0_nil, ?_⟩) | (refine goes_oper_k rfl rfl (by k_ne) (fun K hK => ?_); go_simp; refine hK _ _ ⟨d0_none (fun e he => by have hm := mem_listed he; simp [go_sem, *] at hm), ?_⟩; clear hK K; try w_num))
     (refine Goes.step rfl (fun _ hq=> ?_);replace hF:=hq hF;clear hq;rw [stepG_unwanted rfl rfl];simp only [goes_go];refine ⟨d0_nil,?_⟩;walk_nrm)
     iterate 2 (refine Goes.step rfl (fun _ hq => ?_); replace hF := hq hF; clear hq; first | (rw [stepG_region_end]; simp only [goes_go]; refine ⟨d0_nil, ?_⟩) | (refine goes_oper_k rfl rfl (by k_ne) (fun K hK => ?_); go_simp; refine hK _ _ ⟨d0_none (fun e he => by have hm := mem_listed he; simp [go_sem, *] at hm), ?_⟩; clear hK K; try w_num))
     (refine Goes.step rfl (fun _ hq=> ?_);replace hF:=hq hF;clear hq;rw [stepG_cond (t:=false) (rfl)];simp only [goes_go,Bool.false_eq_true,↓reduceIte];refine ⟨d0_nil,?_⟩)
     iterate 7 (refine Goes.step rfl (fun _ hq => ?_); replace hF := hq hF; clear hq; first | (rw [stepG_seq]; simp only [goes_go]; refine ⟨d0_nil, ?_⟩) | (rw [stepG_region]; simp only [goes_go, List.size_toArray, List.length_cons, List.length_nil, Nat.zero_add]; (try simp only [Nat.reduceAdd]); simp only [List.range, List.range.loop]; refine ⟨d0_nil, ?_⟩) | (rw [stepG_skip]; simp only [goes_go]; refine ⟨d0_nil, ?_⟩) | (refine goes_oper_k rfl rfl (by k_ne) (fun K hK => ?_); go_simp; refine hK _ _ ⟨d0_none (fun e he => by have hm := mem_listed he; simp [go_sem, *] at hm), ?_⟩; clear hK K; try w_num))
     refine Goes.stop (fun w3 h3=> ?_)
     replace hF:=h3 hF
     clear h3
     refine ⟨rfl,rfl,fun ⟨st,hw⟩=>stepG_semacquire_wait rfl rfl rfl H.f_semacquire (x_semacquire_n L) (x_semacquire_b L) (x_semacquire_x L) (x_semacquire_f L) (by simp [Act.eval,smA]) hw.cellSm,fun hf=> ?_⟩
     refine ⟨_,(stepG_semacquire (n:=1) rfl rfl (by k_ne) rfl H.f_semacquire (x_semacquire_n L) (x_semacquire_b L) (x_semacquire_x L) (x_semacquire_f L) (by simp [Act.eval,smA]) hf.cellSm (by k_ne) (hf.thaw 1)).trans (by rfl),30,?_⟩
     replace hF:WgLive L.tWg Wg (w3.setCell (smA Wg) (.int .u32 0)):=⟨_,_,hf.setSm 0⟩
     clear hf
     walk_nrm
     iterate 6 (refine Goes.step rfl (fun _ hq => ?_); replace hF := hq hF; clear hq; first | (rw [stepG_seq]; simp only [goes_go]; refine ⟨d0_nil, ?_⟩) | (rw [stepG_region_end]; simp only [goes_go]; refine ⟨d0_nil, ?_⟩) | (rw [stepG_region]; simp only [goes_go, List.size_toArray, List.length_cons, List.length_nil, Nat.zero_add]; (try simp only [Nat.reduceAdd]); simp only [List.range, List.range.loop]; refine ⟨d0_nil, ?_⟩) | (refine goes_oper_k rfl rfl (by k_ne) (fun K hK => ?_); go_simp; refine hK _ _ ⟨d0_none (fun e he => by have hm := mem_listed he; simp [go_sem, *] at hm), ?_⟩; clear hK K; try w_num))
     (refine Goes.step rfl (fun _ hq=> ?_);replace hF:=hq hF;clear hq;refine goes_call rfl rfl (by k_ne) rfl H.f_uLoad (nm_uLoad L) rfl ⟨d0_nil,?_⟩;walk_nrmf uLoadFn)
     iterate 9 (refine Goes.step rfl (fun _ hq => ?_); replace hF := hq hF; clear hq; first | (rw [stepG_seq]; simp only [goes_go]; refine ⟨d0_nil, ?_⟩) | (rw [stepG_region_end]; simp only [goes_go]; refine ⟨d0_nil, ?_⟩) | (rw [stepG_region]; simp only [goes_go, List.size_toArray, List.length_cons, List.length_nil, Nat.zero_add]; (try simp only [Nat.reduceAdd]); simp only [List.range, List.range.loop]; refine ⟨d0_nil, ?_⟩) | (refine goes_oper_k rfl rfl (by k_ne) (fun K hK => ?_); go_simp; refine hK _ _ ⟨d0_none (fun e he => by have hm := mem_listed he; simp [go_sem, *] at hm), ?_⟩; clear hK K; try w_num))
     refine Goes.stop (fun w4 h4=> ?_)
     replace hF:=h4 hF
     clear h4
     refine ⟨rfl,fun hw=>⟨_,stepG_load_atomic (v:=0) rfl rfl (by k_ne) rfl H.f_loadU64 (x_loadU64_n L) (x_loadU64_b L) (x_loadU64_x L) .u64 (x_loadU64_f L) rfl hw.cellSt,30,?_⟩⟩
     clear hw
     walk_nrm
     iterate 2 (refine Goes.step rfl (fun _ hq => ?_); replace hF := hq hF; clear hq; first | (rw [stepG_region_end]; simp only [goes_go]; refine ⟨d0_nil, ?_⟩) | (refine goes_oper_k rfl rfl (by k_ne) (fun K hK => ?_); go_simp; refine hK _ _ ⟨d0_none (fun e he => by have hm := mem_listed he; simp [go_sem, *] at hm), ?_⟩; clear hK K; try w_num))
     (refine Goes.step rfl (fun _ hq=> ?_);replace hF:=hq hF;clear hq;rw [stepG_ret'];simp only [goes_go];refine ⟨d0_nil,?_⟩)
     (refine Goes.step rfl (fun _ hq=> ?_);replace hF:=hq hF;clear hq;refine goes_leave1 rfl rfl H.f_uLoad rfl ⟨d0_nil,?_⟩;walk_nrm)
     iterate 4 (refine Goes.step rfl (fun _ hq => ?_); replace hF := hq hF; clear hq; first | (rw [stepG_seq]; simp only [goes_go]; refine ⟨d0_nil, ?_⟩) | (rw [stepG_region_end]; simp only [goes_go]; refine ⟨d0_nil, ?_⟩) | (refine goes_oper_k rfl rfl (by k_ne) (fun K hK => ?_); go_simp; refine hK _ _ ⟨d0_none (fun e he => by have hm := mem_listed he; simp [go_sem, *] at hm), ?_⟩; clear hK K; try w_num))
     (refine Goes.step rfl (fun _ hq=> ?_);replace hF:=hq hF;clear hq;rw [stepG_cond (t:=true) (rfl)];simp only [goes_go,↓reduceIte];refine ⟨d0_nil,?_⟩)
     iterate 2 (refine Goes.step rfl (fun _ hq=> ?_);replace hF:=hq hF;clear hq;first | (rw [stepG_seq];simp only [goes_go];refine ⟨d0_nil,?_⟩) | (rw [stepG_region];simp only [goes_go,List.size_toArray,List.length_cons,List.length_nil,Nat.zero_add];(try simp only [Nat.reduceAdd]);simp only [List.range,List.range.loop];refine ⟨d0_nil,?_⟩))
     refine Goes.stop (fun w5 h5=> ?_)
     replace hF:=h5 hF
     clear h5
     refine ⟨rfl,_,stepG_mark0 .enable (by simp) rfl rfl (by k_ne) rfl H.f_enable (x_enable_n L) (x_enable_b L) (x_enable_x L) (x_enable_f L),12,?_⟩
     walk_nrm
     iterate 3 (refine Goes.step rfl (fun _ hq => ?_); replace hF := hq hF; clear hq; first | (rw [stepG_region_end]; simp only [goes_go]; refine ⟨d0_nil, ?_⟩) | (rw [stepG_region]; simp only [goes_go, List.size_toArray, List.length_cons, List.length_nil, Nat.zero_add]; (try simp only [Nat.reduceAdd]); simp only [List.range, List.range.loop]; refine ⟨d0_nil, ?_⟩) | (refine goes_oper_k rfl rfl (by k_ne) (fun K hK => ?_); go_simp; refine hK _ _ ⟨d0_none (fun e he => by have hm := mem_listed he; simp [go_sem, *] at hm), ?_⟩; clear hK K; try w_num))
     (refine Goes.step rfl (fun _ hq=> ?_);replace hF:=hq hF;clear hq;refine goes_oper_k rfl rfl (by k_ne) (fun Kx hKx=> ?_);have hcv:=run_convert_to_unsafe (P:=P) H.underlying_tWgP H.underlying_tUP H.room_tWg (WgLive.cell0 hF).choose_spec;have hce:=fun es=>events_convert_to_unsafe (P:=P) H.underlying_tWgP H.underlying_tUP H.room_tWg (WgLive.cell0 hF).choose_spec es;go_simp;refine hKx _ _ ⟨d0_none (fun ex hex=>by have hmx:=mem_listed hex;simp [go_sem,hce] at hmx),?_⟩;clear hKx Kx hcv hce)
     refine Goes.stop (fun w6 h6=> ?_)
     replace hF:=h6 hF
     clear h6
     refine ⟨rfl,_,stepG_markAt .acquire (by simp) rfl rfl (by k_ne) rfl H.f_acquire (x_acquire_n L) (x_acquire_b L) (x_acquire_x L) (x_acquire_f L) (by simp [Act.eval,stA]),10,?_⟩
     clear hF
     intro w7 _
     have hF:AtRel w7 w7:=atRel_refl w7
     walk_nrm
     (refine Goes.step rfl (fun _ hq=> ?_);replace hF:=at_on hF hq;clear hq;rw [stepG_region_end];simp only [goes_go];refine ⟨df_nil,?_⟩)
     (refine Goes.step rfl (fun _ hq=> ?_);replace hF:=at_on hF hq;clear hq;rw [stepG_seq];simp only [goes_go];refine ⟨df_nil,?_⟩)
     (refine Goes.step rfl (fun _ hq=> ?_);replace hF:=at_on hF hq;clear hq;rw [stepG_seq];simp only [goes_go];refine ⟨df_nil,?_⟩)
     (refine Goes.step rfl (fun _ hq=> ?_);replace hF:=at_on hF hq;clear hq;rw [stepG_region];simp only [goes_go,List.size_toArray,List.length_cons,List.length_nil,Nat.zero_add];(try simp only [Nat.reduceAdd]);simp only [List.range,List.range.loop];refine ⟨df_nil,?_⟩)
     (refine Goes.step rfl (fun _ hq => ?_); replace hF := at_on hF hq; clear hq; refine goes_oper_k rfl rfl (by k_ne) (fun K hK => ?_); go_simp; refine hK _ _ ⟨df_none (fun e he => by have hm := mem_listed he; simp [go_sem, *] at hm), ?_⟩; clear hK K; try w_num)
     (refine Goes.step rfl (fun _ hq=> ?_);replace hF:=at_on hF hq;clear hq;rw [stepG_region_end];simp only [goes_go];refine ⟨df_nil,?_⟩)
     (refine Goes.step rfl (fun _ hq=> ?_);replace hF:=at_on hF hq;clear hq;rw [stepG_cond (t:=false) (rfl)];simp only [goes_go,Bool.false_eq_true,↓reduceIte];refine ⟨df_nil,?_⟩)
     (refine Goes.step rfl (fun _ hq=> ?_);replace hF:=at_on hF hq;clear hq;rw [stepG_skip];simp only [goes_go];refine ⟨df_nil,?_⟩)
     (refine Goes.step rfl (fun _ hq=> ?_);replace hF:=at_on hF hq;clear hq;rw [stepG_ret'];simp only [goes_go];refine ⟨df_nil,?_⟩)
     (refine Goes.step rfl (fun _ hq=> ?_);replace hF:=at_on hF hq;clear hq;refine goes_leave0 rfl rfl H.f_wait rfl ⟨df_nil,?_⟩;walk_nrm)
     exact Goes.stop (fun w8 h8=>⟨rfl,at_on hF h8⟩)
   · refine ⟨_,stepG_cas_miss (v:=(v' :Int)*KK) (old:=S) (n:=S+1) rfl rfl (by k_ne) rfl H.f_casU64 (x_casU64_n L) (x_casU64_b L) (x_casU64_x L) .u64 (x_casU64_f L) rfl rfl rfl hw.cellSt (hw.thaw 0) (by rw [<- hS];simp only [KK];omega),20,?_⟩
     clear hw
     walk_nrm
     iterate 2 (refine Goes.step rfl (fun _ hq => ?_); replace hF := hq hF; clear hq; first | (rw [stepG_region_end]; simp only [goes_go]; refine ⟨d0_nil, ?_⟩) | (refine goes_oper_k rfl rfl (by k_ne) (fun K hK => ?_); go_simp; refine hK _ _ ⟨d0_none (fun e he => by have hm := mem_listed he; simp [go_sem, *] at hm), ?_⟩; clear hK K; try w_num))
     (refine Goes.step rfl (fun _ hq=> ?_);replace hF:=hq hF;clear hq;rw [stepG_ret'];simp only [goes_go];refine ⟨d0_nil,?_⟩)
     (refine Goes.step rfl (fun _ hq=> ?_);replace hF:=hq hF;clear hq;refine goes_leave1 rfl rfl H.f_uCas rfl ⟨d0_nil,?_⟩;walk_nrm)
     (refine Goes.step rfl (fun _ hq=> ?_);replace hF:=hq hF;clear hq;rw [stepG_region_end];simp only [goes_go];refine ⟨d0_nil,?_⟩)
     (refine Goes.step rfl (fun _ hq=> ?_);replace hF:=hq hF;clear hq;rw [stepG_cond (t:=false) (rfl)];simp only [goes_go,Bool.false_eq_true,↓reduceIte];refine ⟨d0_nil,?_⟩)
     (refine Goes.step rfl (fun _ hq=> ?_);replace hF:=hq hF;clear hq;rw [stepG_skip];simp only [goes_go];refine ⟨d0_nil,?_⟩)
     (refine Goes.step rfl (fun _ hq=> ?_);replace hF:=hq hF;clear hq;rw [stepG_inBlock];simp only [goes_go];refine ⟨d0_nil,?_⟩)
     (refine Goes.step rfl (fun _ hq=> ?_);replace hF:=hq hF;clear hq;rw [stepG_inLoop];simp only [goes_go];refine ⟨d0_nil,?_⟩)
     exact Goes.stop (fun w3 h3=>⟨_,rfl,by simp,by simp,h3 hF⟩)
end
end Crw
end Go.Proofs.YtfphigmeppdocaaGreat
namespace Go.Proofs.YtfphigmeppdocaaGreat
open Go.RowKit
abbrev lk:Go.Conc.Lib.WgLink:={add:=74,done:=76,wait:=78,relMerge:=90,disable:=91,enable:=92,inBubble:=93,associate:=94,fatal:=95,uOr:=96,uAdd:=97,raceRead:=98,uLoad:=99,uStore:=100,disassociate:=101,semrelease:=102,acquire:=104,isAssociated:=105,uCas:=106,raceWrite:=107,semacquire:=108,orU64:=120,addU64:=121,loadU64:=122,storeU64:=123,casU64:=125,tWgP:=164,tUP:=166,tAssoc:=167,tWg:=141,tAU:=138,tU64:=136,tUint:=153,tU32:=139,tPU32:=171,tPAU:=193,tPU64:=195,tNoCopy:=133,tANoCopy:=134,tAlign64:=135 }
theorem lk_lib:Go.Conc.Lib.WgLib Tryz.prog lk:=
 ⟨Tryz.func74,Tryz.func76,Tryz.func78,Tryz.func90,Tryz.func91,Tryz.func92,Tryz.func93,Tryz.func94,Tryz.func95,Tryz.func96,Tryz.func97,Tryz.func98,Tryz.func99,Tryz.func100,Tryz.func101,Tryz.func102,Tryz.func104,Tryz.func105,Tryz.func106,Tryz.func107,Tryz.func108,Tryz.func120,Tryz.func121,Tryz.func122,Tryz.func123,Tryz.func125,Tryz.underlying164,Tryz.runUnderlying164,Tryz.sizeOf164,Tryz.isAgg164,Tryz.zeroValue164,Tryz.underlying166,Tryz.runUnderlying166,Tryz.sizeOf166,Tryz.isAgg166,Tryz.zeroValue166,Tryz.underlying167,Tryz.runUnderlying167,Tryz.sizeOf167,Tryz.isAgg167,Tryz.zeroValue167,Tryz.underlying141,Tryz.runUnderlying141,Tryz.sizeOf141,Tryz.isAgg141,Tryz.zeroValue141,Tryz.underlying138,Tryz.runUnderlying138,Tryz.sizeOf138,Tryz.isAgg138,Tryz.zeroValue138,Tryz.underlying136,Tryz.runUnderlying136,Tryz.sizeOf136,Tryz.isAgg136,Tryz.zeroValue136,Tryz.underlying153,Tryz.runUnderlying153,Tryz.sizeOf153,Tryz.isAgg153,Tryz.zeroValue153,Tryz.underlying139,Tryz.runUnderlying139,Tryz.sizeOf139,Tryz.isAgg139,Tryz.zeroValue139,Tryz.underlying171,Tryz.runUnderlying171,Tryz.sizeOf171,Tryz.isAgg171,Tryz.zeroValue171,Tryz.underlying193,Tryz.runUnderlying193,Tryz.sizeOf193,Tryz.isAgg193,Tryz.zeroValue193,Tryz.underlying195,Tryz.runUnderlying195,Tryz.sizeOf195,Tryz.isAgg195,Tryz.zeroValue195,Tryz.underlying0,Tryz.runUnderlying0,Tryz.sizeOf0,Tryz.isAgg0,Tryz.zeroValue0,Tryz.underlying3,Tryz.runUnderlying3,Tryz.sizeOf3,Tryz.isAgg3,Tryz.zeroValue3,Tryz.underlying4,Tryz.runUnderlying4,Tryz.sizeOf4,Tryz.isAgg4,Tryz.zeroValue4,Tryz.underlying9,Tryz.runUnderlying9,Tryz.sizeOf9,Tryz.isAgg9,Tryz.zeroValue9,Tryz.underlying20,Tryz.runUnderlying20,Tryz.sizeOf20,Tryz.isAgg20,Tryz.zeroValue20,Tryz.underlying21,Tryz.runUnderlying21,Tryz.sizeOf21,Tryz.isAgg21,Tryz.zeroValue21,(by kernel_rfl),(by kernel_rfl)⟩
instance:Go.ConcR.Payload:=⟨99⟩
end Go.Proofs.YtfphigmeppdocaaGreat
