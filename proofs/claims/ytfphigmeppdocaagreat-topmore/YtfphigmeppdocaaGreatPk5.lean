/-
  Several texts in one.
-/
import Derived.WalkKit
import Derived.WalkSpells
import Derived.WalkLawsBesides
import Derived.Deep.QuietTactic
import Derived.BigQuiet
import Derived.Deep.RegionWith
import Derived.Deep.RegionHeld3
import Derived.Deep.AppendLies
import Derived.ProofKit
import Derived.OpenShut
import Derived.ChangeOld
import Derived.Deep.SlicePairs
import Derived.SizedLaws
import Derived.Conc.LeavingOf
import Derived.Conc.Holds
import Derived.Test.YtfphigmeppdocaaGreatPk4
namespace Go.Proofs.YtfphigmeppdocaaGreat
namespace Lo
open Crw
theorem s0_of {s s0:World} (h:s0.heap=((((((s.heap.push (.cells #[] 99)).push (.cells #[] 101)).push (.cells #[] 3)).push (.cells (madeCells #[.slice none 0 0] 1) 99)).push (.cells #[] 104)).push (.cells #[] 141)).push (.cells #[] 3)):S0 s s0 s.heap.size:=by
 refine ⟨rfl,by rw [h];simp,fun b hb=> ?_,?_,?_,?_,?_,?_,?_,?_⟩<;>rw [h]<;>simp only [Array.getElem?_push,Array.size_push]
 · rw [if_neg (by omega),if_neg (by omega),if_neg (by omega),if_neg (by omega),if_neg (by omega),if_neg (by omega),if_neg (by omega)]
 all_goals (simp;try (repeat rw [if_neg (by omega)]))
theorem idx_run {T:Array Value} {o:Oper} {w:World} {M:Nat} (hop:o.op= .indexAddr 104 (.tmp 3) (.const (.int .i64 0))) (h3:evS T (.tmp 3)= .slice (some ⟨M,0,none⟩) 1 1):
   (execOp (evS T) o).run Seq.prog w= .ok (.value (.pointer (some ⟨M,0,none⟩))) w:=by
 unfold execOp
 simp only [hop,h3]
 have h0:evS T (.const (.int .i64 0))= .int .i64 0:=rfl
 simp [go_sem,h0]
theorem put_run {T:Array Value} {o:Oper} {w:World} {M:Nat} {sa:Option Addr} {sl sc:Nat} (hop:o.op= .store 99 (.tmp 5) (.tmp 4)) (h5:evS T (.tmp 5)= .pointer (some ⟨M,0,none⟩)) (h4:evS T (.tmp 4)= .slice sa sl sc):
   (execOp (evS T) o).run Seq.prog w=match w.cell? ⟨M,0,none⟩ with
     | some _ => if w.frozen? ⟨M, 0, none⟩ then .halt (.unsupported (.unsafePointer "a write to bytes that a string shares")) w else .ok .skip (w.setCell ⟨M, 0, none⟩ (.slice sa sl sc))
     | none=>match w.farStore Seq.prog ⟨M,0,none⟩ (.slice sa sl sc) false with
       | .ok (w',_)=> .ok .skip w'
       | .error h=> .halt h w:=by
 unfold execOp
 simp only [hop,h5,h4]
 simp [go_sem]
 rw [show (Mode.plain==Mode.atomic)=false from rfl]
 cases w.cell? ⟨M,0,none⟩ with
 | none=>
   simp only
   cases w.farStore Seq.prog ⟨M,0,none⟩ (.slice sa sl sc) false<;>rfl
 | some u=>
   simp only
   split<;>rfl
theorem ret_step {f c:Frame} {fn:Func} {v:Value} {cs:List Frame} {s s' :World} (hm:f.mode= .returning) (hf:Seq.prog.funcs[f.fn]? =some fn) (hres:(results fn f.tmps).run Seq.prog s= .ok v s'):
   (gsem Seq.prog (f::c::cs)).run Seq.prog s= .ok (c.finish v::cs) s':=by
 unfold gsem
 simp only [hm,hf]
 show ((results fn f.tmps).bind fun v=>Sem.pure (c.finish v::cs)).run Seq.prog s=_
 rw [Sem.run_bind',hres]
 rfl
theorem fs_res:fS.results=#[.tmp 3]:=rfl
theorem resS {T:Array Value} {v:Value} {s:World} (h:evS T (.tmp 3)=v):(results fS T).run Seq.prog s= .ok v s:=by
 subst h
 exact results_tmp (t:=3) fs_res T Seq.prog s
section
variable {E:List Frame→World→Prop} {zq:Question→Bool}
theorem behind {K:List Frame→World→Prop} (hK:Kz K) (hKB:∀fs s,K fs s→BarZ Seq.prog zq E fs s) (hR:∀f cs s,f.mode= .run→¬E (f::cs) s) {T:Array Value} (hT:T.size=8) {M:Nat} (h3:evS T (.tmp 3)= .slice (some ⟨M,0,none⟩) 1 1) {f:Frame} {fn:Func} {v:Value}
   (hm:f.mode= .returning) (hf:Seq.prog.funcs[f.fn]? =some fn) {s:World} (hres:∀τ d,(results fn f.tmps).run Seq.prog (tp s τ d)= .ok v (tp s τ d)) (hsl:isSl v) (hsh:Sh no s) {c:Frame} {cs:List Frame}
   (h:K (f::fr T [.inRegion opsS4 [7,8,9],.code .ret]::c::cs) s):
   (∃u,s.cell? ⟨M,0,none⟩=some u∧s.frozen? ⟨M,0,none⟩=false)∧K (c.finish (.slice (some ⟨M,0,none⟩) 1 1)::cs) (s.setCell ⟨M,0,none⟩ v):=by
 obtain ⟨sa,sl,sc,rfl⟩:=hsl
 have e3:∀a b:Value,evS ((T.setIfInBounds 4 a).setIfInBounds 5 b) (.tmp 3)= .slice (some ⟨M,0,none⟩) 1 1:=fun a b=>by
   rw [←h3]
   show ((T.setIfInBounds 4 a).setIfInBounds 5 b).getD 3 undef=T.getD 3 undef
   simp [Array.getD_eq_getD_getElem?,Array.getElem?_setIfInBounds_ne]
 have e3' :∀a:Value,evS (T.setIfInBounds 4 a) (.tmp 3)= .slice (some ⟨M,0,none⟩) 1 1:=fun a=>by
   rw [←h3]
   show (T.setIfInBounds 4 a).getD 3 undef=T.getD 3 undef
   simp [Array.getD_eq_getD_getElem?,Array.getElem?_setIfInBounds_ne]
 have h1:=hK.next (d:=0) h (ret_step hm hf (hres _ 0))
 rw [fin_fr rfl] at h1
 have h2:=hK.next (d:=0) h1 (s_val rfl rfl (idx_run rfl (e3' _)))
 have e5:evS ((T.setIfInBounds 4 (.slice sa sl sc)).setIfInBounds 5 (.pointer (some ⟨M,0,none⟩))) (.tmp 5)= .pointer (some ⟨M,0,none⟩):=by
   show ((T.setIfInBounds 4 (.slice sa sl sc)).setIfInBounds 5 (.pointer (some ⟨M,0,none⟩))).getD 5 undef=_
   simp [Array.getD_eq_getD_getElem?,hT]
 have e4:evS ((T.setIfInBounds 4 (.slice sa sl sc)).setIfInBounds 5 (.pointer (some ⟨M,0,none⟩))) (.tmp 4)= .slice sa sl sc:=by
   show ((T.setIfInBounds 4 (.slice sa sl sc)).setIfInBounds 5 (.pointer (some ⟨M,0,none⟩))).getD 4 undef=_
   simp [Array.getD_eq_getD_getElem?,hT]
 have hrun:=fun (w:World)=>put_run (T:=(T.setIfInBounds 4 (.slice sa sl sc)).setIfInBounds 5 (.pointer (some ⟨M,0,none⟩))) (o:=opsS4[9]) (w:=w) (M:=M) rfl e5 e4
 have hc:∃u,s.cell? ⟨M,0,none⟩=some u∧s.frozen? ⟨M,0,none⟩=false:=by
   obtain ⟨fs1,s1,hr⟩:=bar_ok hR (hKB _ _ h2) rfl (zt_0 zq) 0
   have hw:=hrun (tp s (fun _ _=>0) 0)
   cases hc:s.cell? ⟨M,0,none⟩ with
   | none=>
     obtain ⟨e,he,_⟩:=no_farS (p:=Seq.prog) (s:=tp s (fun _ _=>0) 0) hsh.dv hsh.nl ⟨M,0,none⟩ (.slice sa sl sc) false
     have hc' :(tp s (fun _ _=>0) 0).cell? ⟨M,0,none⟩=none:=hc
     rw [hc'] at hw
     simp only [he] at hw
     cases hr.symm.trans (s_halt (o:=opsS4[9]) rfl rfl hw)
   | some u=>
     cases hz:s.frozen? ⟨M,0,none⟩ with
     | true=>
       have hc' :(tp s (fun _ _=>0) 0).cell? ⟨M,0,none⟩=some u:=hc
       have hz' :(tp s (fun _ _=>0) 0).frozen? ⟨M,0,none⟩=true:=hz
       rw [hc'] at hw
       simp only [hz',if_true] at hw
       cases hr.symm.trans (s_halt (o:=opsS4[9]) rfl rfl hw)
     | false=>exact ⟨u,rfl,rfl⟩
 refine ⟨hc,?_⟩
 obtain ⟨u,hc,hz⟩:=hc
 have hw:(execOp (evS ((T.setIfInBounds 4 (.slice sa sl sc)).setIfInBounds 5 (.pointer (some ⟨M,0,none⟩)))) opsS4[9]).run Seq.prog (tp s (fun _ _=>0) 0)= .ok .skip ((tp s (fun _ _=>0) 0).setCell ⟨M,0,none⟩ (.slice sa sl sc)):=by
   have hw:=hrun (tp s (fun _ _=>0) 0)
   have hc' :(tp s (fun _ _=>0) 0).cell? ⟨M,0,none⟩=some u:=hc
   have hz' :(tp s (fun _ _=>0) 0).frozen? ⟨M,0,none⟩=false:=hz
   rw [hc'] at hw
   simpa only [hz',Bool.false_eq_true,if_false] using hw
 have h4:=hK.next (d:=0) h2 (s_skip (o:=opsS4[9]) rfl rfl hw)
 have h5:=hK.next (d:=0) h4 s_end
 have h6:=hK.next (d:=0) h5 s_ret
 have h7:=hK.next (d:=0) h6 (ret_step (v:= .slice (some ⟨M,0,none⟩) 1 1) rfl seq_sp (resS (e3 _ _)))
 exact hK.tp (τ:=fun _ _=>0) (d:=0) h7
end
end Lo
end Go.Proofs.YtfphigmeppdocaaGreat
namespace Go.Proofs.YtfphigmeppdocaaGreat
namespace Lo
open Crw
theorem ret_mode {S:Program} {Q:Value -> Array Obj -> Prop} (f:Frame) (cs:List Frame) (s:World) (hm:f.mode= .run):¬RetQ S Q (f::cs) s:=by
 rintro ⟨fr,e,hm',_⟩
 cases e
 rw [hm] at hm';cases hm'
theorem send_ne:77≠52:=by decide
theorem send_kn:kn.contains 77=true:=by kernel_rfl
theorem whyp_of {SB:Nat -> Prop} {SBw:SBs} {N:Nat} {news paths:Value} {s0:World} (hSB:∀b,SB b -> b<N \/ b=N+5) (hsub:∀b,SB b -> SB6 SBw N b) (hsh:Sh no s0)
   (hsend:∀τ d,Calls Seq.prog 77 #[news,paths,.int .i64 0,.int .i64 1] (tp s0 τ d) fun e _=>∃v,e= .returned v /\ isSl v)
   {Q:Value -> Array Obj -> Prop} {K:List Frame -> World -> Prop} (hK:Kq Seq.prog (zqs 52) K) (hKB:∀fs s,K fs s -> BarZ Seq.prog (zqs 52) (RetQ Seq.prog Q) fs s) {T:Array Value} (hT:T.size=8) (h3:evS T (.tmp 3)= .slice (some ⟨N+3,0,none⟩) 1 1) {c:Frame} {cs:List Frame}
   (hb:K (Frame.enter Seq.prog 77 #[news,paths,.int .i64 0,.int .i64 1] .normal::fr T [.inRegion opsS4 [7,8,9],.code .ret]::c::cs) s0):
   WHyp Seq.prog (fun f=>kn.contains f) 52 SB SBw N news paths s0 /\
   ∀v s' wf,Came Seq.prog SBw N news paths s0 v s' wf -> K (c.finish (.slice (some ⟨N+3,0,none⟩) 1 1)::cs) (s'.setCell ⟨N+3,0,none⟩ v):=by
 have F:=seq_fine.2
 have hall:All Seq.prog [Frame.enter Seq.prog 77 #[news,paths,.int .i64 0,.int .i64 1] .normal]:=by
   intro f hf
   rw [List.mem_singleton] at hf
   subst hf
   exact FOk.enter F seq_send _
 have hwf:WF Seq.prog [Frame.enter Seq.prog 77 #[news,paths,.int .i64 0,.int .i64 1] .normal] s0:=⟨hall,hsh⟩
 have hbar:Bar Seq.prog (RetS Seq.prog) [Frame.enter Seq.prog 77 #[news,paths,.int .i64 0,.int .i64 1] .normal] s0:=
   bar_call F hwf fun τ d=>(hsend τ d).mono fun e w' ⟨v,h1,h2⟩=>⟨v,h1,h2⟩
 have key:∀fr' s' fn v,Rc Seq.prog [Frame.enter Seq.prog 77 #[news,paths,.int .i64 0,.int .i64 1] .normal] s0 [fr'] s' -> fr'.mode= .returning -> Seq.prog.funcs[fr'.fn]? =some fn -> (∀τ d,(results fn fr'.tmps).run Seq.prog (tp s' τ d)= .ok v (tp s' τ d)) ->
     (∃u,s'.cell? ⟨N+3,0,none⟩=some u /\ s'.frozen? ⟨N+3,0,none⟩=false) /\ K (c.finish (.slice (some ⟨N+3,0,none⟩) 1 1)::cs) (s'.setCell ⟨N+3,0,none⟩ v):=by
   intro fr' s' fn v hrc hm hf hres
   obtain ⟨_,hwf',hz⟩:=rc_zero F (retQ_ok _ _) hK (fun x cs s h=>no_sp h) hwf (fun f hf=>by
     rw [List.mem_singleton] at hf
     subst hf
     exact send_ne) hbar hrc
   have hsl:isSl v:=by
     cases Rc.bar (retQ_ok _ _) hbar hrc with
     | stop he=>
       obtain ⟨fr2,e,_,fn2,v2,hf2,hr2,hs2⟩:=he
       cases e
       rw [hf] at hf2;cases hf2
       have:=(hres s'.tape s'.drawn).symm.trans (hr2 s'.tape s'.drawn)
       cases this
       exact hs2
     | step h1 _=>
       obtain ⟨fs1,s1,hr⟩:=h1 s'.tape s'.drawn
       obtain ⟨why,hh⟩:=ret_halt (S:=Seq.prog) hm (tp s' s'.tape s'.drawn)
       cases hr.symm.trans hh
   exact behind (kz_q hK) hKB ret_mode hT h3 hm hf hres hsl hwf'.sh (hz _ hb)
 refine ⟨⟨seq_fine.1,fun x cs s h=>no_sp h,hSB,hsub,send_kn,send_ne,hall,hbar,fun fr' s' fn v a b c d=>(key fr' s' fn v a b c d).1⟩,fun v s' wf hc=> ?_⟩
 obtain ⟨_,⟨fr',fn,a1,a2,a3,a4⟩,_⟩:=hc
 exact (key fr' s' fn v a1 a2 a3 a4).2
end Lo
end Go.Proofs.YtfphigmeppdocaaGreat
namespace Go.Proofs.YtfphigmeppdocaaGreat
namespace Lo
open Crw
def clo (x y:Value):Value:= .func (.func 77) #[x,y,.int .i64 1,undef,undef,undef,undef,undef] #[]
def Sends (H:Array Obj) (x y:Value):Prop:=∀w:World,(∀b,b<H.size -> w.heap[b]? =H[b]?) -> Calls Seq.prog 77 #[x,y,.int .i64 0,.int .i64 1] w fun e _=>∃v,e= .returned v /\ isSl v
def DeadAt (H:Array Obj):Prop:=∃(Hh:Array Obj) (na:Option Addr) (nl nc:Nat) (pa:Option Addr) (pl pc:Nat),H=Hh.push (.cells #[clo (.slice na nl nc) (.slice pa pl pc)] 3) /\ Sends Hh (.slice na nl nc) (.slice pa pl pc)
theorem eight {T:Array Value} (h:T.size=8):T=#[T.getD 0 undef,T.getD 1 undef,T.getD 2 undef,T.getD 3 undef,T.getD 4 undef,T.getD 5 undef,T.getD 6 undef,T.getD 7 undef]:=by
 obtain ⟨l⟩:=T
 match l,h with
 | [a,b,c,d,e,f,g,i],_=>rfl
theorem t2_get {x:Array Value} (hx:x.size <= 8):((T2 x).getD 7 undef).cells=#[.func (.func 77) (T1 x) #[]]:=by
 have h1:(T2 x).getD 7 undef= .func (.func 77) ((#[.tmp 0,.tmp 1,.tmp 2,.tmp 3,.tmp 4,.tmp 5,.tmp 6,.tmp 7]:Array Operand).map (evS (T1 x))) ((#[]:Array Operand).map (evS (T1 x))):=by
   unfold T2
   simp [Array.getD_eq_getD_getElem?,t1_size hx]
 rw [h1]
 have h2:((#[.tmp 0,.tmp 1,.tmp 2,.tmp 3,.tmp 4,.tmp 5,.tmp 6,.tmp 7]:Array Operand).map (evS (T1 x)))=T1 x:=by
   rw [eight (t1_size hx)]
   simp only [List.map_toArray,List.map_cons,List.map_nil]
   rfl
 rw [h2]
 simp only [List.map_toArray,List.map_nil]
 rfl
theorem enter_fill {n:Nat} (hn:8 <= n) {x:Array Value} (hx:x.size <= 8):x++Array.replicate (n-x.size) undef=T1 x++Array.replicate (n- 8) undef:=by
 unfold T1
 rw [Array.append_assoc,Array.replicate_append_replicate]
 congr 2
 omega
theorem enter_one {x y:Array Value} (hx:x.size <= 8) (hy:y.size <= 8) (h:T1 x=T1 y):Frame.enter Seq.prog 52 x .normal=Frame.enter Seq.prog 52 y .normal /\ Frame.enter Tryz.prog 52 x .normal=Frame.enter Tryz.prog 52 y .normal:=by
 refine ⟨?_,?_⟩
 · rw [enterS,enterS]
   show fr (T1 x) _=fr (T1 y) _
   rw [h]
 · have e:x++Array.replicate (Tryz.f52.ntmps-x.size) undef=y++Array.replicate (Tryz.f52.ntmps-y.size) undef:=by
     rw [enter_fill (by decide+kernel) hx,enter_fill (by decide+kernel) hy,h]
   simp only [Frame.enter,Tryz.func52,Option.map_some,Option.getD_some,e]
theorem kl_rec {fs0:List Frame} {s0:World} (hwf:WF Seq.prog fs0 s0):Kl (Rec Seq.prog fs0 s0):=⟨fun h hr=>h.step seq_fine.2 hwf hr,fun h=>h⟩
theorem ready_at {fl:FuncId} {x0:Array Value} {s0:World} (hwf:WF Seq.prog [Frame.enter Seq.prog fl x0 .normal] s0) {A:Ending -> World -> Prop} (hA:∀e w',A e w' -> (∃v,e= .returned v) \/ ∃ch,e= .panicked ch /\ DeadAt w'.heap)
   (hC:∀τ d,Calls Seq.prog fl x0 (tp s0 τ d) A) {x:Array Value} {cs:List Frame} {s:World} (hrec:Rec Seq.prog [Frame.enter Seq.prog fl x0 .normal] s0 (Frame.enter Seq.prog 52 x .normal::cs) s) (hx:x.size <= 8):
   ∃na nl nc pa pl pc,(T1 x=#[.slice na nl nc,.slice pa pl pc,.int .i64 1,undef,undef,undef,undef,undef]) /\ Sends s.heap (.slice na nl nc) (.slice pa pl pc):=by
 have h1:=to_bit (kl_rec hwf).z hx hrec
 obtain ⟨T',s',h2,hh⟩:=bit_one (kl_rec hwf) (t2_size hx) h1
 obtain ⟨n,τ,d,hg⟩:=h2
 obtain ⟨v,hv⟩:=die_at (T:=T') (cs:=cs) (tp s' τ d)
 obtain ⟨Hh,na,nl,nc,pa,pl,pc,e1,e2⟩:=die_calls seq_fine.2 hwf hA (hC τ 0) hg hv
 have e3:s'.heap=Hh.push (.cells #[clo (.slice na nl nc) (.slice pa pl pc)] 3):=e1
 rw [hh,t2_get hx] at e3
 obtain ⟨e4,e5⟩:=Array.push_eq_push.1 e3
 refine ⟨na,nl,nc,pa,pl,pc,?_,by rw [e5];exact e2⟩
 simp only [Obj.cells.injEq] at e4
 have e6:=e4.1
 simp only [clo,Array.mk.injEq,List.cons.injEq,Value.func.injEq] at e6
 exact e6.1.2.1
end Lo
end Go.Proofs.YtfphigmeppdocaaGreat
namespace Go.Proofs.YtfphigmeppdocaaGreat
namespace Crw
open Go.Conc Go.ConcN Lo
open Go.ConcR (KK wgBlock WgAt stA smA rd wr mk Payload DC0 deafBehind_cons deafBehind_one)
theorem stepG_done {P:Program} {f:Frame} {w w' :World} {fn:Func} {v:Value} {es:Array Event} (hp:Plain f) (hm:f.mode= .returning) (hf:P.funcs[f.fn]? =some fn) (hi:P.inits.idxOf? f.fn=none)
   (hr:(results fn f.tmps).runT P w #[]=(.ok v w',es)):stepG P true (G f []) w= .ended (.done v) w' (seen P f.fn es):=by
 obtain ⟨fnid,tmps,todo,defers,mode,kind,roundOf⟩:=f
 obtain ⟨h1,h2,h3⟩:=hp
 simp only at h1 h2 h3 hm hf hi hr
 subst h1 h2 h3 hm
 simp only [Conc.G,stepG,unwind,hf,hr,doReturn,GStep.after,hi]
 simp
theorem end_fr2 {P:Program} {SB:Nat -> Prop} {w:World} {a:Goroutine} {Post:Value -> World -> Prop} (hr:a.status= .running) (hstep:∀d,∃v w' es,stepG P true a (w.at d)= .ended (.done v) w' es /\ w.heap.size <= w'.heap.size /\ (∀e∈es,EvF SB w'.heap.size e) /\ Post v w'):
   ∀(M:Nat) (gs:Array Goroutine) (q:Nat -> Nat) (d:Nat) (sl:Option (Nat×Nat)) (t:Trace),sumTo gs.size q <= M -> gs[0]? =some a -> Fr P SB gs q (w.at d) t -> Ends P Post (crowd gs (w.at d) sl) t:=by
 intro M
 induction M with
 | zero=>
   intro gs q d sl t hM h0 h
   rcases fr_pick h0 hr h sl with ⟨d',sl',hst⟩ | ⟨gs',q',d',sl',ops,_,_,_,_,hlt⟩
   · exact fin d' sl' hst h0 h
   · omega
 | succ M ih=>
   intro gs q d sl t hM h0 h
   rcases fr_pick h0 hr h sl with ⟨d',sl',hst⟩ | ⟨gs',q',d',sl',ops,hst,h0',hs',hF',hlt⟩
   · exact fin d' sl' hst h0 h
   · exact .step hst (ih gs' q' d' sl' _ (by rw [hs'];omega) h0' hF')
 where
 fin {gs:Array Goroutine} {q:Nat -> Nat} {d:Nat} {sl:Option (Nat×Nat)} {t:Trace} (d' :Nat) (sl' :Option (Nat×Nat)) (hst:stepT P (crowd gs (w.at d) sl)=runT P (crowd gs ((w.at d).at d') sl') 0) (h0:gs[0]? =some a) (h:Fr P SB gs q (w.at d) t):
     Ends P Post (crowd gs (w.at d) sl) t:=by
   obtain ⟨v,w',es,hend,hsz,hes,hpost⟩:=hstep d'
   have hrunT:=runT_many_ended (P:=P) (sl:=sl') (i:=0) h0 (show stepG P (0==0) a ((w.at d).at d')=_ from hend)
   have hrT:=hst.trans hrunT
   have htr:Tr (ShS SB) (fun _ _=>False) (fun _ _=>False) (gs.size- 1) (gs.size- 1) w.heap.size t:=h.tr
   have hT:Tr (ShS SB) (fun _ _=>False) (fun _ _=>False) (gs.size- 1) (gs.size- 1) w'.heap.size (t++MemOp.ofEvents 0 a.frame.fn a.frame.place es):=by
     refine (htr.mono hsz).app0 apart_none (fun op hop=> ?_) (fun op hop=> ?_)
     · obtain ⟨e,he,rfl⟩:=Go.Conc.mem_ofEvents hop
       exact ⟨rfl,fun x hx=> .inr ⟨(hes e he).1 x hx,fun _ _ _ hf=>hf,fun _ _ _ _ hf=>hf⟩⟩
     · obtain ⟨e,he,rfl⟩:=Go.Conc.mem_ofEvents hop
       exact (hes e he).2.2.2
   refine ⟨0,crowd gs (w.at d) sl,_,_,t++MemOp.ofEvents 0 a.frame.fn a.frame.place es,by simp only [runNT,hrT],rfl,by simp only [Go.step,hrT],v,rfl,hpost,hT.ct.nr,hT.start,⟨fun x hx=> ?_,rfl⟩,fun j x hx hj=> ?_⟩
   · obtain ⟨j,hj⟩:=List.mem_iff_getElem?.1 hx
     rw [List.getElem?_drop] at hj
     exact ⟨_,(h.lv (1+j) x (by omega) (by simpa [crowd] using hj)).leaves⟩
   · have hq:=h.lv j x (by omega) hx
     refine ⟨q j,?_⟩
     have e:(t++MemOp.ofEvents 0 a.frame.fn a.frame.place es).deaf j (t++MemOp.ofEvents 0 a.frame.fn a.frame.place es).size=Deaf t j:=
       Deaf_other t (g:=j) (g':=0) (by omega) _ ofEvents_g
     rw [e]
     exact hq.hears _
end Crw
end Go.Proofs.YtfphigmeppdocaaGreat
namespace Go.Proofs.YtfphigmeppdocaaGreat
namespace Crw
open Go.Conc Go.ConcN Lo
abbrev sp:FuncId:=52
abbrev ok:FuncId→Bool:=fun f=>kn.contains f
theorem evf_of {SB:Nat→Prop} {SBw:SBs} {B:Nat} (hSB:∀b,SB b→SBw b) {e:Event} (h:EvOk SBw B e):EvF SB B e:=by
 rcases h with rfl | ⟨a,wr,rfl,h1,h2⟩ | ⟨r,wr,sy,rfl,h1⟩
 · exact ⟨(fun x hx=>by cases hx),by simp,by simp,(fun x hx=>by cases hx)⟩
 · refine ⟨fun x hx=> ?_,by simp,by simp,fun x hx=> ?_⟩
   · simp only [Go.ConcR.ofEvent_cell,MemAct.touch?,Option.some.injEq] at hx
     subst hx
     rintro ⟨a',ha,hs⟩
     cases ha
     exact h2 (hSB _ hs)
   · simp only [Go.ConcR.ofEvent_cell,MemAct.touch?,Option.some.injEq] at hx
     subst hx
     exact h1
 · refine ⟨fun x hx=> ?_,by simp,by simp,fun x hx=> ?_⟩
   · cases wr<;>cases sy<;>first | (cases hx;done) | (have hx' :some (⟨.obj r,_,_⟩:Touch)=some x:=hx;cases hx';rintro ⟨a1,e1,_⟩;cases e1)
   · cases wr<;>cases sy<;>first | (cases hx;done) | (have hx' :some (⟨.obj r,_,_⟩:Touch)=some x:=hx;cases hx';exact h1)
structure Kp (W:World) (SBw:SBs) (w:World):Prop where
 size:W.heap.size≤w.heap.size
 low:∀b,SBw b→W.heap.size≤b
 v:SBw.v=fun b=>W.heap[b]?
 out:w.os=W.os∧w.output=W.output∧w.tape=W.tape
theorem Kp.goes {W:World} {SBw:SBs} {s s' w w' :World} {u:Array Event} (h:Kp W SBw w) (g:Goes2 SBw s s' w w' u):Kp W SBw w':=
 ⟨Nat.le_trans h.size g.kept.size,h.low,h.v,⟨g.kept.os.trans h.out.1,g.kept.out.trans h.out.2.1,g.kept.tape.trans h.out.2.2⟩⟩
theorem Kp.at {W:World} {SBw:SBs} {w:World} (h:Kp W SBw w) (d:Nat):Kp W SBw (w.at d):=⟨h.size,h.low,h.v,h.out⟩
def Fs (fs:List Frame):Prop:=∀f∈fs,ok f.fn=true∧f.fn≠sp
def Aim (fs0:List Frame) (s0 W:World) (Post:Value→World→Prop) (fs:List Frame) (s:World):Prop:=
 Rec Seq.prog fs0 s0 fs s→∀(gs:Array Goroutine) (q:Nat→Nat) (w:World) (t:Trace) (sl:Option (Nat×Nat)) (SB:Nat→Prop) (SBw:SBs) (f' :Frame) (cs' :List Frame),
   gs[0]? =some (G f' cs')→Fr Tryz.prog SB gs q w t→((fs=f' ::cs' ∧Fs fs)∨∃x c cs,fs=Frame.enter Seq.prog sp x .normal::c::cs∧f' =Frame.enter Tryz.prog sp x .normal∧cs' =c::cs∧Fs (c::cs))→WR SBw s w→(∀b,SB b→SBw b)→Kp W SBw w→
   Ends Tryz.prog Post (crowd gs w sl) t
theorem kn_init:kn.all (fun f=>(Tryz.prog.inits.idxOf? f).isNone)=true:=by kernel_rfl
theorem noinit {f:FuncId} (h:ok f=true):Tryz.prog.inits.idxOf? f=none:=by
 have:=List.all_eq_true.1 kn_init f (List.contains_iff_mem.1 h)
 simpa using this
theorem barZ_refuse {zq:Question→Bool} {f:FuncId} {fn:Func} {x:Array Value} {cs:List Frame} {s:World} {Q:Value→Array Obj→Prop} (hf:Seq.prog.funcs[f]? =some fn) (hb:∃why,fn.body=some (.refuse why)) (h:BarZ Seq.prog zq (RetQ Seq.prog Q) (Frame.enter Seq.prog f x .normal::cs) s):False:=by
 obtain ⟨why,hb⟩:=hb
 cases h with
 | stop he=>
   obtain ⟨fr,e,hm,_⟩:=he
   cases e
   simp [Frame.enter] at hm
 | step h1 _=>
   obtain ⟨fs1,s1,hr⟩:=h1 (fun _ _=>0) 0 (zt_0 zq)
   have : gsem Seq.prog (Frame.enter Seq.prog f x .normal :: cs) = Go.stuck "not here" := by
     simp [gsem,Frame.enter,hf,hb]
   rw [this] at hr
   simp [Go.stuck] at hr
theorem Fs.step {zq:Question→Bool} {Q:Value→Array Obj→Prop} {fs fs1:List Frame} {s s1:World} (hall:All Seq.prog fs1) (h:Fs fs) {τ:Nat→Question→Nat} {d:Nat} (hr:(gsem Seq.prog fs).run Seq.prog (tp s τ d)= .ok fs1 s1)
   (hB:BarZ Seq.prog zq (RetQ Seq.prog Q) fs1 s1) (hne:∀x,fs1≠Frame.enter Seq.prog sp x .normal::fs):Fs fs1:=by
 cases fs with
 | nil=>exact absurd hr (gsem_nil _ _ _)
 | cons f cs=>
   rcases gsem_top hr with ht | ⟨g,y,rfl⟩
   · intro fr hfr
     obtain ⟨f0,h0,e⟩:=ht fr hfr
     rw [e];exact h f0 h0
   · obtain ⟨fng,hg⟩:=(hall _ List.mem_cons_self).known
     have hg' :Seq.prog.funcs[g]? =some fng:=hg
     intro fr hfr
     rcases List.mem_cons.1 hfr with rfl | hfr
     · refine ⟨?_,fun e=> ?_⟩
       · show ok g=true
         cases hog:ok g with
         | true=>rfl
         | false=>exact (barZ_refuse hg' (seq_fine.1.dead g fng hog hg') hB).elim
       · have e' :g=sp:=e
         subst e'
         exact hne y rfl
     · exact h fr hfr
theorem finish_fs {c:Frame} {cs:List Frame} (h:Fs (c::cs)) (v:Value):Fs (c.finish v::cs):=by
 intro f hf
 rcases List.mem_cons.1 hf with rfl | hf
 · rw [finish_fn];exact h c List.mem_cons_self
 · exact h f (List.mem_cons_of_mem _ hf)
def DescR (fs:List Frame) (s:World) (fs' :List Frame) (s' :World):Prop:=(fs' =fs∧∃τ d,tp s' τ d=s)∨DescZ Seq.prog (zqs sp) fs s fs' s'
theorem kq_descR (fs:List Frame) (s:World):Kq Seq.prog (zqs sp) (DescR fs s):=by
 refine ⟨fun {fs1 fs2 s1 s2 τ d} h hz hr=> ?_,fun {fs1 s1 τ d} h=> ?_⟩
 · rcases h with ⟨rfl,τ',d',rfl⟩ | h
   · exact .inr (.one (τ:=τ) (d:=d) hz (by rw [tp_tp];exact hr))
   · exact .inr (.more h hz hr)
 · rcases h with ⟨rfl,τ',d',e⟩ | h
   · exact .inl ⟨rfl,τ',d',e⟩
   · exact .inr (.tp h)
end Crw
end Go.Proofs.YtfphigmeppdocaaGreat
namespace Go.Proofs.YtfphigmeppdocaaGreat
namespace Crw
open Go.Conc Go.ConcN Lo
theorem t1_get {x:Array Value} {a b c d e f g h:Value} (hT:T1 x=#[a,b,c,d,e,f,g,h]):evS (T2 x) (.tmp 0)=a /\ evS (T2 x) (.tmp 1)=b /\ evS (T2 x) (.tmp 2)=c:=by
 have key:∀j,j≠7 -> (T2 x).getD j undef=(#[a,b,c,d,e,f,g,h]:Array Value).getD j undef:=fun j hj=>by
   unfold T2
   rw [<- hT]
   simp [Array.getD_eq_getD_getElem?,Array.getElem?_setIfInBounds_ne (Ne.symm hj)]
 exact ⟨key 0 (by decide),key 1 (by decide),key 2 (by decide)⟩
theorem set_same {w:World} {a:Addr} {v:Value} (b:Nat) (h:b≠a.block):(w.setCell a v).heap[b]? =w.heap[b]? :=by
 simp only [World.setCell,Array.getElem?_modify]
 rw [if_neg (Ne.symm h)]
theorem wr_end {SBw:SBs} {N:Nat} {news paths v:Value} {s' wf w' :World} (hwr:WR (SB6 SBw N) s' wf) (hk:Kw N news paths wf) (h1:∀b,b≠N+3 -> b≠N+5 -> b≠N -> w'.heap[b]? =wf.heap[b]?) (h2:w'.heap.size=wf.heap.size)
   (h3:w'.heap[N+3]? =(wf.setCell ⟨N+3,0,none⟩ v).heap[N+3]?) (h4:PayAt N 1 w') (h5:WgLive lk.tWg (N+5) w'):WR (SB6 SBw N) (s'.setCell ⟨N+3,0,none⟩ v) w':=by
 have hn3:¬(SB6 SBw N) (N+3) -> True:=fun _=>trivial
 by_cases hb3:(SB6 SBw N) (N+3)
 · -- it may not look there: nothing is written
   obtain ⟨t,c,e1,e2⟩:=hwr.bad _ hb3
   refine ⟨by simp [World.setCell,hwr.size,h2],fun b hb=> ?_,fun b hb=> ?_,fun b o x hb=> ?_⟩
   · have e:b≠N+3:=fun e=>hb (e▸hb3)
     rw [set_same b e,h1 b e (fun e=>hb (.inr (by omega))) (fun e=>hb (.inr (by omega)))]
     exact hwr.same b hb
   · by_cases e3:b=N+3
     · subst e3
       rw [h3]
       refine ⟨t,c.setIfInBounds 0 v,?_,?_⟩
       · simp [World.setCell,Array.getElem?_modify,e1]
       · simp [World.setCell,Array.getElem?_modify,e2]
     · rw [set_same b e3]
       by_cases e5:b=N+5
       · subst e5
         obtain ⟨t,c,h6,h7⟩:=hwr.bad _ hb
         obtain ⟨st,sm,hv⟩:=hk.live
         obtain ⟨st',sm',hv'⟩:=h5
         have:=h7.symm.trans hv
         simp only [ConcR.wgBlock,Option.some.injEq,Obj.cells.injEq] at this
         obtain rfl:t=lk.tWg:=this.2.1
         exact ⟨_,_,h6,hv'⟩
       · by_cases e0:b=N
         · subst e0
           obtain ⟨t,c,h6,h7⟩:=hwr.bad _ hb
           obtain ⟨c1,h8,_⟩:=hk.pN
           obtain ⟨c2,h9,_⟩:=h4
           have:=h7.symm.trans h8
           simp only [Option.some.injEq,Obj.cells.injEq] at this
           exact ⟨_,c2,this.2.1▸h6,h9⟩
         · rw [h1 b e3 e5 e0];exact hwr.bad b hb
   · have e:b≠N+3:=fun e=>hb (e▸hb3)
     rw [set_same b e,h1 b e (fun e=>hb (.inr (by omega))) (fun e=>hb (.inr (by omega)))]
     exact hwr.old b o x hb
 · have f1:Keeps fun o=>match o with | Obj.cells c elem frozen=>Obj.cells (if (⟨N+3,0,none⟩:Addr).spot.isSome then c else c.setIfInBounds (⟨N+3,0,none⟩:Addr).off v) elem frozen | o=>o:=by
     intro o;cases o<;>first | exact .inl rfl | exact .inr ⟨_,_,_,_,_,_,rfl,rfl⟩
   have hm:WR (SB6 SBw N) (s'.setCell ⟨N+3,0,none⟩ v) (wf.setCell ⟨N+3,0,none⟩ v):=hwr.modify hb3 f1
   have h1' :∀b,b≠N+5 -> b≠N -> w'.heap[b]? =(wf.setCell ⟨N+3,0,none⟩ v).heap[b]? :=fun b e5 e0=>by
     by_cases e3:b=N+3
     · subst e3;exact h3
     · rw [set_same b e3];exact h1 b e3 e5 e0
   refine ⟨by rw [hm.size];simp [World.setCell,h2],fun b hb=> ?_,fun b hb=> ?_,fun b o x hb=> ?_⟩
   · rw [h1' b (fun e=>hb (.inr (by omega))) (fun e=>hb (.inr (by omega)))]
     exact hm.same b hb
   · by_cases e5:b=N+5
     · subst e5
       obtain ⟨t,c,h6,h7⟩:=hwr.bad _ hb
       obtain ⟨st,sm,hv⟩:=hk.live
       obtain ⟨st',sm',hv'⟩:=h5
       have:=h7.symm.trans hv
       simp only [ConcR.wgBlock,Option.some.injEq,Obj.cells.injEq] at this
       obtain rfl:t=lk.tWg:=this.2.1
       exact ⟨_,_,by rw [set_same _ (by show N+5≠N+3;omega)];exact h6,hv'⟩
     · by_cases e0:b=N
       · subst e0
         obtain ⟨t,c,h6,h7⟩:=hwr.bad _ hb
         obtain ⟨c1,h8,_⟩:=hk.pN
         obtain ⟨c2,h9,_⟩:=h4
         have:=h7.symm.trans h8
         simp only [Option.some.injEq,Obj.cells.injEq] at this
         exact ⟨_,c2,by rw [set_same _ (by show b≠b+3;omega)];exact this.2.1▸h6,h9⟩
       · rw [h1' b e5 e0];exact hm.bad b hb
   · rw [h1' b (fun e=>hb (.inr (by omega))) (fun e=>hb (.inr (by omega)))]
     exact hm.old b o x hb
theorem sp_case {fl:FuncId} {x0:Array Value} {s0 W:World} {Q:Value -> Array Obj -> Prop} {Post:Value -> World -> Prop} (hwf0:WF Seq.prog [Frame.enter Seq.prog fl x0 .normal] s0)
   {A:Ending -> World -> Prop} (hA:∀e w',A e w' -> (∃v,e= .returned v) \/ ∃ch,e= .panicked ch /\ DeadAt w'.heap) (hC:∀τ d,Calls Seq.prog fl x0 (tp s0 τ d) A) {x:Array Value} {c:Frame} {cs:List Frame} {s:World}
   (hB:BarZ Seq.prog (zqs sp) (RetQ Seq.prog Q) (Frame.enter Seq.prog sp x .normal::c::cs) s) (hrec:Rec Seq.prog [Frame.enter Seq.prog fl x0 .normal] s0 (Frame.enter Seq.prog sp x .normal::c::cs) s)
   (ih:∀fs' s',DescZ Seq.prog (zqs sp) (Frame.enter Seq.prog sp x .normal::c::cs) s fs' s' -> Aim [Frame.enter Seq.prog fl x0 .normal] s0 W Post fs' s')
   {gs:Array Goroutine} {q:Nat -> Nat} {w:World} {t:Trace} {sl:Option (Nat×Nat)} {SB:Nat -> Prop} {SBw:SBs} (h0:gs[0]? =some (G (Frame.enter Tryz.prog sp x .normal) (c::cs))) (hFr:Fr Tryz.prog SB gs q w t) (hfs:Fs (c::cs))
   (hwr:WR SBw s w) (hSB:∀b,SB b -> SBw b) (hK:Kp W SBw w):Ends Tryz.prog Post (crowd gs w sl) t:=by
 have F:=seq_fine.2
 have hx:=few (retQ_ok _ _) ret_mode hB
 obtain ⟨na,nl,nc,pa,pl,pc,hT,hS⟩:=ready_at hwf0 hA hC hrec hx
 let K:List Frame -> World -> Prop:=fun fs' s' =>(BarZ Seq.prog (zqs sp) (RetQ Seq.prog Q) fs' s' /\ Rec Seq.prog [Frame.enter Seq.prog fl x0 .normal] s0 fs' s') /\ DescR (Frame.enter Seq.prog sp x .normal::c::cs) s fs' s'
 have hq:Kq Seq.prog (zqs sp) K:=((kq_bar (retQ_ok _ _)).and (kq_rec F _ hwf0)).and (kq_descR _ _)
 have k0:K (Frame.enter Seq.prog sp x .normal::c::cs) s:=⟨⟨hB,hrec⟩,.inl ⟨rfl,s.tape,s.drawn,rfl⟩⟩
 obtain ⟨g0,g1,g2⟩:=t1_get hT
 obtain ⟨T',s1,k1,hT',h3,hheap⟩:=bit_zero (kz_q hq) (t2_size hx) g2 (to_bit (kz_q hq) hx k0)
 rw [g0,g1] at k1
 have hN:s.heap.size=w.heap.size:=hwr.size
 have hS0:=s0_of hheap
 rw [hN] at hS0 h3
 have hsh:Sh Lo.no s1:=(k1.1.2.wf F hwf0).sh
 obtain ⟨W1,hback⟩:=whyp_of (SB:=more SB (w.heap.size+5)) (SBw:=SBw) (N:=w.heap.size) (fun b hb=>hb.imp (hFr.sb b) id) (fun b hb=>by
     rcases hb with hb | hb
     · exact .inl (hSB b hb)
     · exact .inr (.inr (.inr (.inr (.inr (.inl hb)))))) hsh (fun τ d=>hS (tp s1 τ d) fun b hb=>hS0.old b (by omega)) hq (fun _ _ k=>k.1.1) hT' h3 k1
 have hlt:∀b,SBw b -> b<w.heap.size:=fun b hb=>by
   obtain ⟨_,_,_,h⟩:=hwr.bad b hb
   exact (Array.getElem?_eq_some_iff.1 h).1
 have hx3:T1 x=T1 #[.slice na nl nc,.slice pa pl pc,.int .i64 (1:Nat)]:=by
   rw [hT]
   rfl
 rw [(enter_one hx (by show (3:Nat) <= 8;omega) hx3).2] at h0
 refine sendAll_ends W1 hS0 hwr hlt h0 hFr (fun gs' w' sl' t' q' g0' F' hfin hlive hout=> ?_) sl
 obtain ⟨v,s',wf,hcame,f1,f2,f3,f4⟩:=hfin
 have k2:=hback v s' wf hcame
 have hdesc:DescZ Seq.prog (zqs sp) (Frame.enter Seq.prog sp x .normal::c::cs) s (c.finish (.slice (some ⟨w.heap.size+3,0,none⟩) 1 1)::cs) (s'.setCell ⟨w.heap.size+3,0,none⟩ v):=by
   rcases k2.2 with ⟨e,_⟩ | h
   · have:=congrArg List.length e
     simp at this
   · exact h
 have hsz:w.heap.size <= w'.heap.size:=by
   have h6:=lt_cell hcame.2.2.2.cN
   rw [f2]
   exact Nat.le_of_lt h6
 refine ih _ _ hdesc k2.1.2 gs' q' w' t' sl' (more SB (w.heap.size+5)) (SB6 SBw w.heap.size) _ cs g0' F' (.inl ⟨rfl,finish_fs hfs _⟩) (wr_end hcame.2.2.1 hcame.2.2.2 f1 f2 f3 f4 hlive) W1.hsub
   ⟨Nat.le_trans hK.size hsz,fun b hb=> ?_,hK.v,⟨hout.1.trans hK.out.1,hout.2.1.trans hK.out.2.1,hout.2.2.trans hK.out.2.2⟩⟩
 have:=hK.size
 rcases hb with hb | hb
 · exact hK.low b hb
 · omega
end Crw
end Go.Proofs.YtfphigmeppdocaaGreat
namespace Go.Proofs.YtfphigmeppdocaaGreat
namespace Crw
open Go.Conc Go.ConcN Lo
theorem wr_at {SBw:SBs} {s w:World} (h:WR SBw s w) (τ:Nat -> Question -> Nat) (d d' :Nat):WR SBw (tp s τ d) (w.at d'):=⟨h.size,h.same,h.bad,h.old⟩
theorem outer {fl:FuncId} {x0:Array Value} {s0 W:World} {Q:Value -> Array Obj -> Prop} {Post:Value -> World -> Prop} (hwf0:WF Seq.prog [Frame.enter Seq.prog fl x0 .normal] s0)
   {A:Ending -> World -> Prop} (hA:∀e w',A e w' -> (∃v,e= .returned v) \/ ∃ch,e= .panicked ch /\ DeadAt w'.heap) (hC:∀τ d,Calls Seq.prog fl x0 (tp s0 τ d) A)
   (hPost:∀v s' w' SBw,Q v s'.heap -> WR SBw s' w' -> Kp W SBw w' -> Post v w') {fs:List Frame} {s:World} (hB:BarZ Seq.prog (zqs sp) (RetQ Seq.prog Q) fs s):Aim [Frame.enter Seq.prog fl x0 .normal] s0 W Post fs s:=by
 have F:=seq_fine.2
 refine barZ_ind (P:=Aim [Frame.enter Seq.prog fl x0 .normal] s0 W Post) (retQ_ok _ _) (fun fs s hB ih=> ?_) hB
 intro hrec gs q w t sl SB SBw f' cs' h0 hFr hrel hwr hSB hK
 rcases hrel with ⟨rfl,hfs⟩ | ⟨x,c,cs,rfl,rfl,rfl,hfs⟩
 · have hwf:=hrec.wf F hwf0
   have hall:=hwf.all
   obtain ⟨hok,hsp⟩:=hfs f' List.mem_cons_self
   obtain ⟨fn0,fn',e1,e2,e3,_⟩:=seq_fine.1.same f'.fn hok
   have e3:=e3 hsp
   subst e3
   have hpl:=(all_cons.1 hall).1.plain
   cases hB with
   | stop hE=>
     obtain ⟨fr,he,hm,fn,v,hfn,hres,hQ⟩:=hE
     obtain ⟨rfl,rfl⟩:=List.cons.inj he
     rw [e1] at hfn
     cases hfn
     refine end_fr2 (w:=w) (SB:=SB) rfl (fun d=> ?_) (sumTo gs.size q) gs q w.drawn sl t (Nat.le_refl _) h0 hFr
     have hw0:=wr_at hwr w.tape d d
     obtain ⟨_,_,_,hw⟩:=((results_ok (zo:=sp) (SB:=SBw) seq_fine.1.sm fn' f'.tmps) (tp s w.tape d) hw0.sh).2 _ _ (hres w.tape d)
     obtain ⟨v',w',u,r,rfl,g⟩:=hw (w.at d) #[] hw0 (fun i q _ _=>rfl)
     refine ⟨v,w',_,stepG_done hpl hm e2 (noinit hok) r,g.kept.size,fun e he=> ?_,hPost v (tp s w.tape d) w' SBw hQ g.wr ((hK.at d).goes g)⟩
     have:=mem_seen he
     rw [Array.empty_append] at this
     exact evf_of hSB (g.ev e this)
   | step h1 h2=>
     refine step_fr (w:=w) (gs:=gs) (SB:=SB) rfl (fun d=> ?_) (sumTo gs.size q) gs q w.drawn sl t (Nat.le_refl _) h0 rfl hFr
     obtain ⟨fs1,s1,hr⟩:=h1 (zf sp w.tape) d (zf_zt sp w.tape)
     have hB1:=h2 _ _ _ _ (zf_zt sp w.tape) hr
     have hw0:=wr_at hwr (zf sp w.tape) d d
     obtain ⟨_,_,hd⟩:=((gsem_ok (SB:=SBw) seq_fine.1 hall hok hsp) (tp s (zf sp w.tape) d) hw0.sh).2 _ _ hr
     rcases hd with ⟨hA1,g,y,hg,rfl⟩ | ⟨_,hw⟩
     · obtain ⟨fng,hgf⟩:=(hA1 _ List.mem_cons_self).known
       exact (barZ_refuse hgf (seq_fine.1.dead g fng hg hgf) hB1).elim
     · obtain ⟨l,w',u,r,⟨hA1,hl⟩,g⟩:=hw (w.at d) #[] hw0 (fun i q hz _=>(zf_agr sp w.tape _ q hz).symm)
       obtain ⟨f1,cs1,rfl,hst⟩:=step_of_gsem hpl r true [] ⟨_,e2⟩
       rw [List.append_nil,List.append_nil] at hst
       refine ⟨_,w',_,hst,⟨g.kept.size,fun e he=> ?_⟩,fun gs' q' sl' t' g0 _ hF' =>ih _ _ (.one (zf_zt sp w.tape) hr) (hrec.step F hwf0 hr) gs' q' w' t' sl' SB SBw f1 cs1 g0 hF' ?_ g.wr hSB ((hK.at d).goes g)⟩
       · have:=mem_seen he
         rw [Array.empty_append] at this
         exact evf_of hSB (g.ev e this)
       · rcases hl with ⟨rfl,hne⟩ | ⟨x,rfl,e⟩
         · exact .inl ⟨rfl,Fs.step hA1 hfs hr hB1 hne⟩
         · obtain ⟨rfl,rfl⟩:=List.cons.inj e
           exact .inr ⟨x,_,_,rfl,rfl,rfl,hfs⟩
 · exact sp_case hwf0 hA hC hB hrec ih h0 hFr hfs hwr hSB hK
end Crw
end Go.Proofs.YtfphigmeppdocaaGreat
namespace Go.Proofs.YtfphigmeppdocaaGreat
namespace Crw
open Go.Conc Go.ConcN Lo Go.RowKit
def calm:Obj -> Obj
 | .view _ t=> .view dead t
 | .loop _=> .coro none
 | .pending _ _=> .coro none
 | o=>o
def calmW (W:World):World:={W with heap:=W.heap.map calm }
theorem calm_get (W:World) (b:Nat):(calmW W).heap[b]? =(W.heap[b]?).map calm:=by simp [calmW]
theorem calm_size (W:World):(calmW W).heap.size=W.heap.size:=by simp [calmW]
theorem calm_cell (W:World) (a:Addr):(calmW W).cell? a=W.cell? a:=by
 unfold World.cell?
 rw [calm_get]
 cases W.heap[a.block]? with
 | none=>rfl
 | some o=>cases o<;>rfl
theorem calm_br (o:Option Obj):BR (o.map calm) o:=by
 cases o with
 | none=>exact .inl ⟨rfl,by simp⟩
 | some o=>
   cases o with
   | view a t=>exact .inr (.inl ⟨t,a,rfl,rfl⟩)
   | loop l=>exact .inr (.inr ⟨_,rfl,rfl,.inl ⟨l,rfl⟩⟩)
   | pending c t=>exact .inr (.inr ⟨_,rfl,rfl,.inr ⟨c,t,rfl⟩⟩)
   | _=>exact .inl ⟨rfl,fun p hp=>by cases hp;exact ⟨by simp [calm],by simp [calm],by simp [calm]⟩⟩
theorem calm_pl {o:Obj} (h:Pl (calm o)):calm o=o:=by
 cases o with
 | view a t=>exact absurd rfl (h.1 dead t)
 | loop l=>exact absurd rfl h.2.2.2
 | pending c t=>exact absurd rfl h.2.2.2
 | _=>rfl
def startS (W:World):SBs:=⟨fun _=>False,fun b=>W.heap[b]?⟩
theorem calm_wr (W:World):WR (startS W) (calmW W) W:=by
 refine ⟨calm_size W,fun b _=> ?_,fun b hb=>False.elim hb,fun b o v _ _ _ hv=>hv⟩
 rw [calm_get]
 exact calm_br _
theorem law_ends {fl:FuncId} {W:World} {args:Array Value} {Post:Value -> World -> Prop} (hfl:ok fl=true) (hns:fl≠sp)
   (hC:∀τ d,Calls Seq.prog fl args (tp (calmW W) τ d) fun e w' =>(e= .returned (.bool true) /\ Below W.heap.size (tp (calmW W) τ d) w') \/ (¬Zt (zqs sp) τ /\ ∃ch,e= .panicked ch /\ DeadAt w'.heap))
   (hPost:∀w',Below W.heap.size W w' -> Post (.bool true) w'):Ends Tryz.prog Post (crowd #[G (Frame.enter Tryz.prog fl args .normal) []] W none) #[]:=by
 have F:=seq_fine.2
 obtain ⟨fn,fn',e1,e2,e3,_⟩:=seq_fine.1.same fl hfl
 have hwf0:WF Seq.prog [Frame.enter Seq.prog fl args .normal] (calmW W):=by
   refine ⟨fun f hf=> ?_,?_⟩
   · rw [List.mem_singleton] at hf
     subst hf
     exact FOk.enter F e1 _
   · exact (calm_wr W).sh.no
 have hB:BarZ Seq.prog (zqs sp) (RetQ Seq.prog fun v h=>v= .bool true /\ ∀b,b<W.heap.size -> h[b]? =(calmW W).heap[b]?) [Frame.enter Seq.prog fl args .normal] (calmW W):=
   barZ_call F hwf0 fun τ d hz=>(hC τ d).mono fun e w' h=>by
     obtain ⟨h1,h2⟩:=h.resolve_right fun h=>h.1 hz
     exact ⟨_,h1,rfl,fun b hb=>h2.block b hb⟩
 refine outer (W:=W) (Post:=Post) hwf0 (A:=fun e w' =>(∃v,e= .returned v) \/ ∃ch,e= .panicked ch /\ DeadAt w'.heap) (fun _ _ h=>h) (fun τ d=>(hC τ d).mono fun e w' h=>h.imp (fun h=>⟨_,h.1⟩) fun h=>h.2)
   (fun v s' w' SBw hq hwr hk=> ?_) hB (Rec.start _ _) #[G (Frame.enter Tryz.prog fl args .normal) []] (fun _=>0) W #[] none (fun _=>False) (startS W) _ [] rfl (fr_first _ _ _)
   (.inl ⟨by rw [enter_same seq_fine.1 hfl hns],fun f hf=> ?_⟩) (calm_wr W) (fun _ h=>h) ⟨Nat.le_refl _,fun _ h=>False.elim h,rfl,rfl,rfl,rfl⟩
 · obtain ⟨rfl,hb⟩:=hq
   refine hPost w' ⟨hk.out.1,hk.out.2.2,hk.out.2.1,hk.size,fun b hlt=> ?_⟩
   have hnb:¬SBw b:=fun h=>by have:=hk.low b h;omega
   obtain ⟨o,ho⟩:∃o,W.heap[b]? =some o:=⟨_,Array.getElem?_eq_getElem hlt⟩
   have hs:s'.heap[b]? =some (calm o):=by rw [hb b hlt,calm_get,ho];rfl
   rw [ho]
   by_cases hp:Pl (calm o)
   · rcases hwr.same b hnb with ⟨h1,_⟩ | ⟨t,a,h1,_⟩ | ⟨o1,h1,_⟩
     · rw [<- h1,hs,calm_pl hp]
     · rw [hs] at h1;exact absurd (Option.some.inj h1) (hp.1 _ _)
     · rw [hs] at h1;exact absurd (Option.some.inj h1) hp.2.2.2
   · exact hwr.old b _ o hnb hs hp (by rw [hk.v];exact ho)
 · rw [List.mem_singleton] at hf
   subst hf
   exact ⟨hfl,hns⟩
end Crw
end Go.Proofs.YtfphigmeppdocaaGreat
namespace Go.Proofs.YtfphigmeppdocaaGreat
def nearB (x:Int):Prop:= -1000000000 <= x /\ x <= 1000000000
def Near (l:List (Int×Int)) (k:Nat):Prop:=∀i,i<k -> nearB (l.getD i (0,0)).1 /\ nearB (l.getD i (0,0)).2
def nearDec (l:List (Int×Int)) (k:Nat):Decidable (Near l k):=by unfold Near nearB;infer_instance
def Form (l:List (Int×Int)) (k:Nat):Prop:=∀i,i<k -> (l.getD i (0,0)).1<(l.getD i (0,0)).2 /\ (0<i -> (l.getD (i- 1) (0,0)).2<(l.getD i (0,0)).1)
def goodDec (l:List (Int×Int)) (k:Nat):Decidable (Near l k /\ Form l k):=by unfold Near Form nearB;infer_instance
def cbs (l:List (Int×Int)):Int:=if 200<l.length then 2 else @ite Int (Near l l.length) (nearDec l l.length) 0 5
def chk (l:List (Int×Int)):Int:=if 200<l.length then 2 else @ite Int (Near l l.length /\ Form l l.length) (goodDec l l.length) 0 5
def flat (l:List (Int×Int)):List Int:=l.flatMap fun p=>[p.1,p.2]
theorem flat_cons (p:Int×Int) (l:List (Int×Int)):flat (p::l)=p.1::p.2::flat l:=by simp [flat]
theorem flat_append (a b:List (Int×Int)):flat (a++b)=flat a++flat b:=by simp [flat]
theorem flat_length (l:List (Int×Int)):(flat l).length=2*l.length:=by
 induction l with
 | nil=>rfl
 | cons p l ih=>rw [flat_cons];simp only [List.length_cons,ih];omega
theorem take_succ_get {α:Type} (l:List α) (k:Nat) (hk:k<l.length):l.take (k+1)=l.take k++[l[k]]:=by
 rw [List.take_add_one,List.getElem?_eq_getElem hk];rfl
theorem flat_succ (l:List (Int×Int)) (k:Nat) (hk:k<l.length):flat (l.take (k+1))=flat (l.take k)++[l[k].1,l[k].2]:=by
 rw [take_succ_get l k hk,flat_append];rfl
theorem flat_getD (l:List (Int×Int)) (j:Nat) (h:j<l.length):(flat l)[j*2]? =some (l.getD j (0,0)).1 /\ (flat l)[j*2+1]? =some (l.getD j (0,0)).2:=by
 induction l generalizing j with
 | nil=>simp at h
 | cons p l ih=>
   rw [flat_cons]
   cases j with
   | zero=>exact ⟨rfl,rfl⟩
   | succ j=>
     have:=ih j (by simpa using h)
     rw [show (j+1)*2=j*2+1+1 by omega]
     simpa using this
def cnt (l:List Int) (t:Int):Nat:=l.countP fun x=>decide (x <= t)
def Stp (A:List Int) (i i' :Nat) (τ:Int):Prop:=(i' =i+1 /\ A[i]? =some τ) \/ (i' =i /\ ∀y∈A.drop i,τ<y)
theorem stp_no {A:List Int} {i:Nat} {τ:Int} (sA:A.Pairwise (·<·)) (h:i<A.length) (e:τ<A[i]):Stp A i i τ:=by
 refine .inr ⟨rfl,fun y hy=> ?_⟩
 have sd:=sA.sublist (List.drop_sublist i A)
 rw [List.drop_eq_getElem_cons h] at hy sd
 rw [List.pairwise_cons] at sd
 simp only [List.mem_cons] at hy
 rcases hy with rfl | hy
 · exact e
 · have:=sd.1 y hy;omega
def has (l:List (Int×Int)) (t:Int):Bool:=l.any fun p=>decide (p.1 <= t)&&decide (t<p.2)
theorem has_nil (t:Int):has [] t=false:=rfl
theorem has_cons (p:Int×Int) (l:List (Int×Int)) (t:Int):has (p::l) t=((decide (p.1 <= t)&&decide (t<p.2))||has l t):=rfl
def size (l:List (Int×Int)):Int:=(l.map fun p=>p.2-p.1).sum
def Canon (l:List (Int×Int)):Prop:=(flat l).Pairwise (·<·)
def pairs:List Int -> List (Int×Int)
 | x::y::l=>(x,y)::pairs l
 | _=>[]
theorem form_tail {p:Int×Int} {l:List (Int×Int)} (h:Form (p::l) (l.length+1)):Form l l.length:=by
 intro i hi
 have:=h (i+1) (by omega)
 refine ⟨by simpa using this.1,fun h0=> ?_⟩
 have h2:=this.2 (by omega)
 rw [show i+1- 1=(i- 1)+1 by omega] at h2
 simpa using h2
theorem canon_of_form {l:List (Int×Int)} (h:Form l l.length):Canon l:=by
 unfold Canon
 induction l with
 | nil=>exact List.Pairwise.nil
 | cons p l ih=>
   have ih':=ih (form_tail h)
   have h0:=(h 0 (by simp)).1
   simp at h0
   have h1:∀x∈flat l,p.2<x:=by
     cases l with
     | nil=>simp [flat]
     | cons q l=>
       have hq:=(h 1 (by simp)).2 (by omega)
       simp at hq
       rw [flat_cons] at ih' ⊢
       intro x hx
       rw [List.pairwise_cons] at ih'
       simp only [List.mem_cons] at hx
       rcases hx with rfl | hx
       · exact hq
       · have:=ih'.1 x (by simpa using hx);omega
   rw [flat_cons,List.pairwise_cons,List.pairwise_cons]
   refine ⟨fun x hx=> ?_,h1,ih'⟩
   simp only [List.mem_cons] at hx
   rcases hx with rfl | hx
   · exact h0
   · have:=h1 x hx;omega
open Go.RowKit
def IvAt (w:World) (ao:Option Addr) (l:List (Int×Int)):Prop:=
 l=[] \/ ∃b off,ao=some ⟨b,off,none⟩ /\ b<w.heap.size /\ ∀j,j<l.length -> w.cell? ⟨b,off+j*2,none⟩=some (.int .i64 (l.getD j (0,0)).1) /\ w.cell? ⟨b,off+j*2+1,none⟩=some (.int .i64 (l.getD j (0,0)).2)
def ZsAt (w:World) (ao:Option Addr) (l:List Int):Prop:=
 l=[] \/ ∃b off,ao=some ⟨b,off,none⟩ /\ b<w.heap.size /\ ∀j,j<l.length -> w.cell? ⟨b,off+j,none⟩=some (.int .i64 (l.getD j 0))
theorem Tryz.infoInt:(Tryz.prog.info? 3).map (fun i=>(i.zero,i.size,i.bytes))=some (some (.int .i64 0),1,8):=by kernel_rfl
theorem Tryz.infoIvl:(Tryz.prog.info? 95).map (fun i=>(i.zero,i.size,i.bytes))=some (some (.agg #[.int .i64 0,.int .i64 0]),2,16):=by kernel_rfl
theorem zsAt_of_owns {w:World} {base e:Nat} {v:Value} {n:Nat} {l:List Int} (h:w.ownsRow base e 1 v n (l.map (Value.int .i64))):∃ao cap,v= .slice ao l.length cap /\ ZsAt w ao l:=by
 obtain ⟨h1,h2⟩:=h
 simp only [List.length_map,Nat.mul_one] at h1
 subst h1
 rcases h2 with ⟨rfl,h0⟩ | ⟨g,cap,cur,rfl,hb,hh,h3,h4,h5,h6⟩
 · exact ⟨none,0,by rw [h0],.inl (List.eq_nil_of_length_eq_zero h0)⟩
 · refine ⟨_,cap,rfl,.inr ⟨g,0,rfl,(Array.getElem?_eq_some_iff.1 hh).1,fun j hj=> ?_⟩⟩
   have:=World.ownsRow.cellAt (w:=w) (base:=base) (e:=e) (size:=1) (xs:=l.map (Value.int .i64)) ⟨by simp,.inr ⟨g,cap,cur,rfl,hb,hh,h3,h4,h5,h6⟩⟩ j (by omega)
   rw [Nat.zero_add,this,List.getElem?_map,List.getD_eq_getElem?_getD,List.getElem?_eq_getElem hj]
   rfl
def encs (l:List (Int×Int)):List Value:=(flat l).map (Value.int .i64)
theorem ivAt_of_owns {w:World} {base e:Nat} {v:Value} {n:Nat} {l:List (Int×Int)} (h:w.ownsRow base e 2 v n (encs l)):∃ao cap,v= .slice ao l.length cap /\ IvAt w ao l:=by
 obtain ⟨h1,h2⟩:=h
 simp only [encs,List.length_map,flat_length] at h1
 have hn:n=l.length:=by omega
 subst hn
 rcases h2 with ⟨rfl,h0⟩ | ⟨g,cap,cur,rfl,hb,hh,h3,h4,h5,h6⟩
 · exact ⟨none,0,by rw [h0],.inl (List.eq_nil_of_length_eq_zero h0)⟩
 · have hown:w.ownsRow base e 2 (.slice (some ⟨g,0,none⟩) l.length cap) l.length (encs l):=⟨by simp [encs,flat_length];omega,.inr ⟨g,cap,cur,rfl,hb,hh,h3,h4,h5,h6⟩⟩
   refine ⟨_,cap,rfl,.inr ⟨g,0,rfl,(Array.getElem?_eq_some_iff.1 hh).1,fun j hj=> ?_⟩⟩
   obtain ⟨f0,f1⟩:=flat_getD l j hj
   rw [Nat.zero_add,hown.cellAt (j*2) (by omega),hown.cellAt (j*2+1) (by omega)]
   simp only [encs,List.getElem?_map,f0,f1]
   exact ⟨rfl,rfl⟩
abbrev Lg:=Int×Int×Int×Int
abbrev Ed:=Int×Int×List Lg
structure Gr where
 hor:Int
 lives:List (Int×Int)
 edges:List Ed
def inR (n lo hi:Int):Bool:=decide (lo <= n)&&decide (n <= hi)
def spanB (a b h:Int):Bool:=decide (0 <= a)&&(decide (a<b)&&decide (b <= h))
def fitB (l:Lg) (h:Int):Bool:=spanB l.1 l.2.1 h&&(inR l.2.2.1 1 50&&inR l.2.2.2 0 1000)
def lgChk (h p:Int):List Lg -> Int
 | []=>0
 | l::ls=>if fitB l h=false then 1 else if l.1<p then 5 else lgChk h l.2.1 ls
def edChk (h n:Int) (e:Ed):Int:=if (inR e.1 0 (n- 1)&&inR e.2.1 0 (n- 1))=false then 4 else if 6<e.2.2.length then 2 else lgChk h 0 e.2.2
def edsChk (h n:Int):List Ed -> Int
 | []=>0
 | e::es=>if edChk h n e=0 then edsChk h n es else edChk h n e
def lvChk (h:Int):List (Int×Int) -> Int
 | []=>0
 | p::ps=>if spanB p.1 p.2 h=true then lvChk h ps else 1
def gChk (g:Gr):Int:=
 if inR g.hor 1 100=false then 1 else if 12<g.lives.length \/ 30<g.edges.length then 2 else if lvChk g.hor g.lives≠0 then 1 else edsChk g.hor g.lives.length g.edges
def prevTo (l:List Lg):Nat -> Int
 | 0=>0
 | k+1=>(l.getD k (0,0,0,0)).2.1
theorem lg_end {h:Int} {l:List Lg} (hI:lgChk h 0 l=lgChk h (prevTo l l.length) (l.drop l.length)):lgChk h 0 l=0:=by
 rw [hI,List.drop_length];rfl
theorem eds_end {h n:Int} {l:List Ed} (hI:edsChk h n l=edsChk h n (l.drop l.length)):edsChk h n l=0:=by
 rw [hI,List.drop_length];rfl
theorem lv_end {h:Int} {l:List (Int×Int)} (hI:lvChk h l=lvChk h (l.drop l.length)):lvChk h l=0:=by
 rw [hI,List.drop_length];rfl
structure Right (g:Gr):Prop where
 hor:1 <= g.hor /\ g.hor <= 100
 lvs:g.lives.length <= 12
 eds:g.edges.length <= 30
 life:∀p∈g.lives,0 <= p.1 /\ p.1<p.2 /\ p.2 <= g.hor
 ends:∀e∈g.edges,(0 <= e.1 /\ e.1<g.lives.length) /\ (0 <= e.2.1 /\ e.2.1<g.lives.length) /\ e.2.2.length <= 6
 legs:∀e∈g.edges,∀l∈e.2.2,fitB l g.hor=true
theorem ret_bool {a b:Bool} (h:a=b):Ending.returned (.bool a)= .returned (.bool b):=by rw [h]
def nrB (x:Int):Bool:=decide (-1000000000 <= x)&&decide (x <= 1000000000)
theorem nrB_iff (x:Int):nrB x=true↔nearB x:=by unfold nrB nearB;simp only [Bool.and_eq_true,decide_eq_true_eq]
theorem nrB_all_no {l:List Int} {k:Nat} (hk:k<l.length) (h:¬nearB l[k]):l.all nrB=false:=by
 rw [<- Bool.not_eq_true,List.all_eq_true]
 intro hh
 exact h ((nrB_iff _).1 (hh l[k] (List.getElem_mem hk)))
theorem nrB_take_succ {l:List Int} {k:Nat} (hk:k<l.length) (h0:(l.take k).all nrB=true) (h:nearB l[k]):(l.take (k+1)).all nrB=true:=by
 rw [take_succ_get l k hk,List.all_append,h0]
 simp [(nrB_iff _).2 h]
set_option maxHeartbeats 400000 in
theorem Near_any (ao:Option Addr) (cap:Nat) (l:List Int) (w:World) (hl:ZsAt w ao l) (hn:l.length <= 9223372036854775807):
   Calls Tryz.prog 86 #[.slice ao l.length cap] w fun e w' =>e= .returned (.bool (l.all nrB)) /\ w' =w:=by
 go_enter Tryz.func86,Tryz.ntmps86
 go_wp2
 go_loop [7] (fun i=>∃k:Nat,k <= l.length /\ i= .int .i64 k /\ (l.take k).all nrB=true) (fun i=>l.length-(intOf i).toNat)
 case atStart=>exact ⟨0,Nat.zero_le _,rfl,rfl⟩
 case round=>
   obtain ⟨k,hk,rfl,hh⟩:=hrel
   have HH:Hid ((l.take k).all nrB=true):=hh
   clear hh
   by_cases hlt:k<l.length
   · rcases hl with h0 | ⟨b,off,rfl,hbw,hc⟩
     · subst h0;simp at hlt
     have c0:=hc k hlt
     have hg:l.getD k 0=l[k]:=by simp [List.getD_eq_getElem?_getD,List.getElem?_eq_getElem hlt]
     rw [hg] at c0
     clear hc hg
     by_cases g1:l[k]< -1000000000
     · have HC:Hid (l.all nrB=false):=nrB_all_no hlt (by unfold nearB;omega)
       go_wp2
       go_ret
       exact ⟨ret_bool HC.out.symm,rfl⟩
     · by_cases g2:l[k]>1000000000
       · have HC:Hid (l.all nrB=false):=nrB_all_no hlt (by unfold nearB;omega)
         go_wp2
         go_ret
         exact ⟨ret_bool HC.out.symm,rfl⟩
       · have HC:Hid ((l.take (k+1)).all nrB=true):=nrB_take_succ hlt HH.out (by unfold nearB;omega)
         go_wp2
         go_round
         case rel=>exact ⟨k+1,by omega,by go_num,HC.out⟩
         case measure=>simp [intOf];omega
   · have hkl:k=l.length:=by omega
     subst hkl
     have HC:Hid (l.all nrB=true):=by have:=HH.out;rwa [List.take_length] at this
     go_wp2
     go_ret
     exact ⟨ret_bool HC.out.symm,rfl⟩
def LgAt (w:World) (ao:Option Addr) (m:List Lg):Prop:=
 m=[] \/ ∃b off,ao=some ⟨b,off,none⟩ /\ b<w.heap.size /\ ∀j,j<m.length -> w.cell? ⟨b,off+j*4,none⟩=some (.int .i64 (m.getD j (0,0,0,0)).1) /\ w.cell? ⟨b,off+j*4+1,none⟩=some (.int .i64 (m.getD j (0,0,0,0)).2.1) /\ w.cell? ⟨b,off+j*4+2,none⟩=some (.int .i64 (m.getD j (0,0,0,0)).2.2.1) /\ w.cell? ⟨b,off+j*4+3,none⟩=some (.int .i64 (m.getD j (0,0,0,0)).2.2.2)
def EdOne (w:World) (b off:Nat) (e:Ed):Prop:=
 w.cell? ⟨b,off,none⟩=some (.int .i64 e.1) /\ w.cell? ⟨b,off+1,none⟩=some (.int .i64 e.2.1) /\ ∃la lc,w.cell? ⟨b,off+2,none⟩=some (.slice la e.2.2.length lc) /\ LgAt w la e.2.2 /\ e.2.2.length <= lc /\ lc <= 9223372036854775807
def EdAt (w:World) (ao:Option Addr) (m:List Ed):Prop:=
 m=[] \/ ∃b off,ao=some ⟨b,off,none⟩ /\ b<w.heap.size /\ ∀j (h:j<m.length),EdOne w b (off+j*3) m[j]
structure GAt (w:World) (la ea:Option Addr) (g:Gr):Prop where
 lv:IvAt w la g.lives
 ed:EdAt w ea g.edges
 nl:g.lives.length <= 9223372036854775807
 ne:g.edges.length <= 9223372036854775807
theorem Tryz.infoEdge:(Tryz.prog.info? 47).map (fun i=>(i.zero,i.size,i.bytes))=some (some (.agg #[.int .i64 0,.int .i64 0,.slice none 0 0]),3,40):=by kernel_rfl
open Go.ChangeShapes Go.WideShapes Go.ChangeAt Go.RowKit Go.Deep
theorem Tryz.own:ownKnob Tryz.prog.godebug=none:=by kernel_rfl
theorem Tryz.laidOut:laidOutB Tryz.prog=true:=by kernel_rfl
theorem Tryz.cellsIvl:Tryz.prog.cellsOf 95=2:=by kernel_rfl
theorem Tryz.cellsInt:Tryz.prog.cellsOf 3=1:=by kernel_rfl
theorem open_ivs {H:Type} {enc:TypeId×Value -> H} {W:World} {a:Option Addr} {len cap:Nat} {d:DataW H} {ps:List MemPlace}
   (h:DataW.Trod enc Tryz.prog W 0 (fun _=>true) true 22 (.slice a len cap) d ps):∃l:List (Int×Int),l.length=len /\ IvAt W a l /\ len <= cap /\ cap <= 9223372036854775807:=by
 obtain ⟨fuel,hf⟩:=h
 rcases open_slice_pairs Tryz.underlying22 Tryz.underlying95 Tryz.cellsIvl rfl rfl Tryz.cellsInt Tryz.cellsInt hf with ⟨hcs,_⟩ | ⟨x,l,c,m,n,V0,V1,D0,D1,P0,P1,hcs,_,hl,hm,hmm,_,hcell⟩
 · simp [Value.cells] at hcs
   obtain ⟨rfl,rfl,rfl⟩:=hcs
   exact ⟨[],rfl,.inl rfl,Nat.le_refl _,by omega⟩
 · simp [Value.cells] at hcs
   obtain ⟨rfl,rfl,rfl⟩:=hcs
   simp only [if_true] at hmm
   subst hmm
   have each:∀i,i<len -> ∃q:Int×Int,W.cell? (x.add (i*2))=some (.int .i64 q.1) /\ W.cell? (x.add (i*2+1))=some (.int .i64 q.2):=by
     intro i hi
     obtain ⟨h0,h1,t0,t1⟩:=hcell i (by omega)
     obtain ⟨z0,e0,_,_⟩:=DataW.trod_int Tryz.underlying3 t0
     obtain ⟨z1,e1,_,_⟩:=DataW.trod_int Tryz.underlying3 t1
     simp only [List.cons.injEq,and_true] at e0 e1
     exact ⟨(z0,z1),by rw [h0,e0],by rw [h1,e1]⟩
   obtain ⟨q,hq⟩:=choose_lt each
   refine ⟨(List.range len).map q,by simp,?_,hl,by unfold maxLen at hm;omega⟩
   by_cases h0:len=0
   · subst h0;exact .inl (by simp)
   · obtain ⟨b,off,spot⟩:=x
     have hc0:=(hq 0 (by omega)).1
     have hspot:spot=none:=by simpa [Addr.add] using World.cell?_spot hc0
     subst hspot
     have hlt:=World.block_lt_of_cell? W _ hc0
     refine .inr ⟨b,off,rfl,by simpa [Addr.add] using hlt,fun j hj=> ?_⟩
     simp only [List.length_map,List.length_range] at hj
     have hg:((List.range len).map q).getD j (0,0)=q j:=by simp [List.getD_eq_getElem?_getD,hj]
     rw [hg]
     have:=hq j hj
     rw [add_plain,add_plain] at this
     simpa [Nat.add_assoc] using this
theorem Tryz.cellsLeg:Tryz.prog.cellsOf 69=4:=by kernel_rfl
theorem Tryz.cellsEdge:Tryz.prog.cellsOf 47=3:=by kernel_rfl
theorem Tryz.cellsGraph:Tryz.prog.cellsOf 25=3:=by kernel_rfl
theorem Tryz.cellsLegs:Tryz.prog.cellsOf 45=1:=by kernel_rfl
theorem Tryz.cellsIvls:Tryz.prog.cellsOf 22=1:=by kernel_rfl
theorem Tryz.cellsEdges:Tryz.prog.cellsOf 23=1:=by kernel_rfl
theorem open_ivs_c {H:Type} {enc:TypeId×Value -> H} {W:World} {fuel:Nat} {cs:List Value} {d:DataW H} {ps:List MemPlace}
   (hf:DataW.trod enc Tryz.prog W 0 (fun _=>true) true fuel 22 cs=some (d,ps)):∃a cap,∃l:List (Int×Int),cs=[.slice a l.length cap] /\ IvAt W a l /\ l.length <= cap /\ cap <= 9223372036854775807:=by
 have h:∃a n c,cs=[.slice a n c]:=by
   rcases open_slice Tryz.underlying22 hf with ⟨hcs,_⟩ | ⟨x,l,c,m,n,D,Pl,hcs,_⟩
   · exact ⟨_,_,_,hcs⟩
   · exact ⟨_,_,_,hcs⟩
 obtain ⟨a,n,c,rfl⟩:=h
 obtain ⟨l,rfl,h1,h2,h3⟩:=open_ivs (a:=a) (len:=n) (cap:=c) ⟨fuel,hf⟩
 exact ⟨a,c,l,rfl,h1,h2,h3⟩
set_option maxRecDepth 100000 in
theorem open_legs_c {H:Type} {enc:TypeId×Value -> H} {W:World} {fuel:Nat} {cs:List Value} {d:DataW H} {ps:List MemPlace}
   (hf:DataW.trod enc Tryz.prog W 0 (fun _=>true) true fuel 45 cs=some (d,ps)):∃a cap,∃l:List Lg,cs=[.slice a l.length cap] /\ LgAt W a l /\ l.length <= cap /\ cap <= 9223372036854775807:=by
 rcases open_slice Tryz.underlying45 hf with ⟨hcs,_⟩ | ⟨x,len,cap,m,n,D,Pl,hcs,_,hl,hm,hmm,_,hx⟩
 · exact ⟨none,0,[],hcs,.inl rfl,Nat.le_refl _,by omega⟩
 · simp only [if_true] at hmm
   subst hmm
   have each:∀i,i<len -> ∃q:Lg,W.cell? (x.add (i*4))=some (.int .i64 q.1) /\ W.cell? (x.add (i*4+1))=some (.int .i64 q.2.1) /\ W.cell? (x.add (i*4+2))=some (.int .i64 q.2.2.1) /\ W.cell? (x.add (i*4+3))=some (.int .i64 q.2.2.2):=by
     intro i hi
     obtain ⟨cs',h1,h2⟩:=hx i (by omega)
     rw [Tryz.cellsLeg] at h1
     obtain ⟨_,hlen,hcell⟩:=World.cells?_some h1
     obtain ⟨xs,k,hk,hxy,_,hxl,hff⟩:=DataW.trod_struct Tryz.underlying69 h2
     match xs,hxl,cs',hlen with
     | [y0,y1,y2,y3],_,[v0,v1,v2,v3],_=>
       have g0:=hff 0 _ rfl
       have g1:=hff 1 _ rfl
       have g2:=hff 2 _ rfl
       have g3:=hff 3 _ rfl
       simp [Tryz.cellsInt] at g0 g1 g2 g3
       have e0:=hcell 0 (by omega)
       have e1:=hcell 1 (by omega)
       have e2:=hcell 2 (by omega)
       have e3:=hcell 3 (by omega)
       rw [add_add] at e0 e1 e2 e3
       obtain ⟨z0,f0,_,_⟩:=DataW.trod_int Tryz.underlying3 g0
       obtain ⟨z1,f1,_,_⟩:=DataW.trod_int Tryz.underlying3 g1
       obtain ⟨z2,f2,_,_⟩:=DataW.trod_int Tryz.underlying3 g2
       obtain ⟨z3,f3,_,_⟩:=DataW.trod_int Tryz.underlying3 g3
       simp only [List.cons.injEq,and_true] at f0 f1 f2 f3
       subst f0
       subst f1
       subst f2
       subst f3
       exact ⟨(z0,z1,z2,z3),by simpa using e0,by simpa using e1,by simpa using e2,by simpa using e3⟩
   obtain ⟨q,hq⟩:=choose_lt each
   refine ⟨some x,m,(List.range len).map q,by rw [hcs];simp,?_,by simpa using hl,by unfold maxLen at hm;omega⟩
   by_cases h0:len=0
   · subst h0;exact .inl (by simp)
   · obtain ⟨b,off,spot⟩:=x
     have hc0:=(hq 0 (by omega)).1
     have hspot:spot=none:=by simpa [Addr.add] using World.cell?_spot hc0
     subst hspot
     have hlt:=World.block_lt_of_cell? W _ hc0
     refine .inr ⟨b,off,rfl,by simpa [Addr.add] using hlt,fun j hj=> ?_⟩
     simp only [List.length_map,List.length_range] at hj
     have hg:((List.range len).map q).getD j (0,0,0,0)=q j:=by simp [List.getD_eq_getElem?_getD,hj]
     rw [hg]
     have:=hq j hj
     rw [add_plain,add_plain,add_plain,add_plain] at this
     simpa [Nat.add_assoc] using this
set_option maxRecDepth 100000 in
theorem open_eds_c {H:Type} {enc:TypeId×Value -> H} {W:World} {fuel:Nat} {cs:List Value} {d:DataW H} {ps:List MemPlace}
   (hf:DataW.trod enc Tryz.prog W 0 (fun _=>true) true fuel 23 cs=some (d,ps)):∃a cap,∃l:List Ed,cs=[.slice a l.length cap] /\ EdAt W a l /\ l.length <= cap /\ cap <= 9223372036854775807:=by
 rcases open_slice Tryz.underlying23 hf with ⟨hcs,_⟩ | ⟨x,len,cap,m,n,D,Pl,hcs,_,hl,hm,hmm,_,hx⟩
 · exact ⟨none,0,[],hcs,.inl rfl,Nat.le_refl _,by omega⟩
 · simp only [if_true] at hmm
   subst hmm
   have each:∀i,i<len -> ∃q:Ed,W.cell? (x.add (i*3))=some (.int .i64 q.1) /\ W.cell? (x.add (i*3+1))=some (.int .i64 q.2.1) /\ ∃la lc,W.cell? (x.add (i*3+2))=some (.slice la q.2.2.length lc) /\ LgAt W la q.2.2 /\ q.2.2.length <= lc /\ lc <= 9223372036854775807:=by
     intro i hi
     obtain ⟨cs',h1,h2⟩:=hx i (by omega)
     rw [Tryz.cellsEdge] at h1
     obtain ⟨_,hlen,hcell⟩:=World.cells?_some h1
     obtain ⟨xs,k,hk,hxy,_,hxl,hff⟩:=DataW.trod_struct Tryz.underlying47 h2
     match xs,hxl,cs',hlen with
     | [y0,y1,y2],_,[v0,v1,v2],_=>
       have g0:=hff 0 _ rfl
       have g1:=hff 1 _ rfl
       have g2:=hff 2 _ rfl
       simp [Tryz.cellsInt,Tryz.cellsLegs] at g0 g1 g2
       have e0:=hcell 0 (by omega)
       have e1:=hcell 1 (by omega)
       have e2:=hcell 2 (by omega)
       rw [add_add] at e0 e1 e2
       obtain ⟨z0,f0,_,_⟩:=DataW.trod_int Tryz.underlying3 g0
       obtain ⟨z1,f1,_,_⟩:=DataW.trod_int Tryz.underlying3 g1
       obtain ⟨la,lc,ls,f2,hL,hn,hm'⟩:=open_legs_c (d:=y2.1) (ps:=y2.2) g2
       simp only [List.cons.injEq,and_true] at f0 f1 f2
       subst f0
       subst f1
       subst f2
       exact ⟨(z0,z1,ls),by simpa using e0,by simpa using e1,la,lc,by simpa using e2,hL,hn,hm'⟩
   obtain ⟨q,hq⟩:=choose_lt each
   refine ⟨some x,m,(List.range len).map q,by rw [hcs];simp,?_,by simpa using hl,by unfold maxLen at hm;omega⟩
   by_cases h0:len=0
   · subst h0;exact .inl (by simp)
   · obtain ⟨b,off,spot⟩:=x
     have hc0:=(hq 0 (by omega)).1
     have hspot:spot=none:=by simpa [Addr.add] using World.cell?_spot hc0
     subst hspot
     have hlt:=World.block_lt_of_cell? W _ hc0
     refine .inr ⟨b,off,rfl,by simpa [Addr.add] using hlt,fun j hj=> ?_⟩
     simp only [List.length_map,List.length_range] at hj
     have hg:((List.range len).map q)[j]'(by simpa using hj)=q j:=by simp
     rw [hg]
     obtain ⟨r0,r1,la,lc,r2,r3⟩:=hq j hj
     rw [add_plain] at r0 r1 r2
     exact ⟨by simpa [Nat.add_assoc] using r0,by simpa [Nat.add_assoc] using r1,la,lc,by simpa [Nat.add_assoc] using r2,r3⟩
theorem three_ofG {α:Type} {cs:Array α} (h:cs.size=3):∃x y z,cs=#[x,y,z]:=by
 obtain ⟨l⟩:=cs
 match l,h with
 | [x,y,z],_=>exact ⟨x,y,z,rfl⟩
set_option maxRecDepth 100000 in
theorem open_graph {H:Type} {enc:TypeId×Value -> H} {W:World} {r:Reach} {b0:Nat} {v:Value} {d:DataW H} {ps:List MemPlace}
   (hv:Value.okWide Tryz.prog W r b0 25 v) (h:DataW.Trod enc Tryz.prog W 0 (fun _=>true) true 25 v d ps):
   ∃(g:Gr) (la ea:Option Addr) (lc ec:Nat),v= .agg #[.int .i64 g.hor,.slice la g.lives.length lc,.slice ea g.edges.length ec] /\ GAt W la ea g /\ g.lives.length <= lc /\ lc <= 9223372036854775807:=by
 obtain ⟨cs,rfl,hsz⟩:=okWide_struct Tryz.underlying25 hv
 obtain ⟨v0,v1,v2,rfl⟩:=three_ofG (hsz.trans Tryz.cellsGraph)
 obtain ⟨fuel,h2⟩:=h
 obtain ⟨xs,k,hk,hxy,_,hxl,hff⟩:=DataW.trod_struct Tryz.underlying25 h2
 match xs,hxl with
 | [y0,y1,y2],_=>
   have g0:=hff 0 _ rfl
   have g1:=hff 1 _ rfl
   have g2:=hff 2 _ rfl
   simp [Tryz.cellsInt,Tryz.cellsIvls,Tryz.cellsEdges,Value.cells] at g0 g1 g2
   obtain ⟨z0,f0,_,_⟩:=DataW.trod_int Tryz.underlying3 g0
   obtain ⟨la,lc,ls,f1,hL,hn,hm⟩:=open_ivs_c (d:=y1.1) (ps:=y1.2) g1
   obtain ⟨ea,ec,es,f2,hE,hn2,hm2⟩:=open_eds_c (d:=y2.1) (ps:=y2.2) g2
   simp only [List.cons.injEq,and_true] at f0 f1 f2
   subst f0
   subst f1
   subst f2
   exact ⟨⟨z0,ls,es⟩,la,ea,lc,ec,rfl,⟨hL,hE,by simp only;omega,by simp only;omega⟩,hn,hm⟩
open Go.ChangeShapes Go.WideShapes Go.ChangeAt Go.RowKit Go.Deep Crw Lo
theorem iv_calm {W:World} {ao:Option Addr} {l:List (Int×Int)} (h:IvAt W ao l) (τ:Nat -> Question -> Nat) (d:Nat):IvAt (tp (calmW W) τ d) ao l:=by
 rcases h with h | ⟨b,off,rfl,hlt,hc⟩
 · exact .inl h
 · exact .inr ⟨b,off,rfl,by show b<(calmW W).heap.size;rw [calm_size];exact hlt,fun j hj=>⟨(calm_cell W _).trans (hc j hj).1,(calm_cell W _).trans (hc j hj).2⟩⟩
theorem lg_calm {W:World} {ao:Option Addr} {l:List Lg} (h:LgAt W ao l) (τ:Nat -> Question -> Nat) (d:Nat):LgAt (tp (calmW W) τ d) ao l:=by
 rcases h with h | ⟨b,off,rfl,hlt,hc⟩
 · exact .inl h
 · refine .inr ⟨b,off,rfl,by show b<(calmW W).heap.size;rw [calm_size];exact hlt,fun j hj=> ?_⟩
   obtain ⟨h1,h2,h3,h4⟩:=hc j hj
   exact ⟨(calm_cell W _).trans h1,(calm_cell W _).trans h2,(calm_cell W _).trans h3,(calm_cell W _).trans h4⟩
theorem gat_calm {W:World} {la ea:Option Addr} {g:Gr} (h:GAt W la ea g) (τ:Nat -> Question -> Nat) (d:Nat):GAt (tp (calmW W) τ d) la ea g:=by
 refine ⟨iv_calm h.lv τ d,?_,h.nl,h.ne⟩
 rcases h.ed with h | ⟨b,off,rfl,hlt,hc⟩
 · exact .inl h
 · refine .inr ⟨b,off,rfl,by show b<(calmW W).heap.size;rw [calm_size];exact hlt,fun j hj=> ?_⟩
   obtain ⟨h1,h2,la,lc,h3,h4,h5,h6⟩:=hc j hj
   exact ⟨(calm_cell W _).trans h1,(calm_cell W _).trans h2,la,lc,(calm_cell W _).trans h3,lg_calm h4 τ d,h5,h6⟩
set_option maxRecDepth 100000 in
theorem open_edge {H:Type} {enc:TypeId×Value -> H} {W:World} {r:Reach} {b0:Nat} {v:Value} {d:DataW H} {ps:List MemPlace}
   (hv:Value.okWide Tryz.prog W r b0 47 v) (h:DataW.Trod enc Tryz.prog W 0 (fun _=>true) true 47 v d ps):
   ∃(a b:Int) (l:List Lg) (la:Option Addr) (lc:Nat),v= .agg #[.int .i64 a,.int .i64 b,.slice la l.length lc] /\ LgAt W la l /\ l.length <= lc /\ lc <= 9223372036854775807:=by
 obtain ⟨cs,rfl,hsz⟩:=okWide_struct Tryz.underlying47 hv
 obtain ⟨v0,v1,v2,rfl⟩:=three_ofG (hsz.trans Tryz.cellsEdge)
 obtain ⟨fuel,h2⟩:=h
 obtain ⟨xs,k,hk,hxy,_,hxl,hff⟩:=DataW.trod_struct Tryz.underlying47 h2
 match xs,hxl with
 | [y0,y1,y2],_=>
   have g0:=hff 0 _ rfl
   have g1:=hff 1 _ rfl
   have g2:=hff 2 _ rfl
   simp [Tryz.cellsInt,Tryz.cellsLegs,Value.cells] at g0 g1 g2
   obtain ⟨z0,f0,_,_⟩:=DataW.trod_int Tryz.underlying3 g0
   obtain ⟨z1,f1,_,_⟩:=DataW.trod_int Tryz.underlying3 g1
   obtain ⟨la,lc,ls,f2,hL,hn,hm⟩:=open_legs_c (d:=y2.1) (ps:=y2.2) g2
   simp only [List.cons.injEq,and_true] at f0 f1 f2
   subst f0
   subst f1
   subst f2
   exact ⟨z0,z1,ls,la,lc,rfl,hL,hn,hm⟩
theorem Tryz.bytesEdge:Tryz.prog.bytesOf 47=40:=by kernel_rfl
set_option maxRecDepth 100000 in
theorem graph_weightE {H:Type} {enc:TypeId×Value -> H} {W:World} {v0 v1:Value} {ea:Option Addr} {n ec:Nat} {d:DataW H} {ps:List MemPlace}
   (h:DataW.Trod enc Tryz.prog W 0 (fun _=>true) true 25 (.agg #[v0,v1,.slice ea n ec]) d ps):n=0 \/ ∃m∈d.weights Tryz.prog 25,n*40 <= m:=by
 obtain ⟨fuel,h2⟩:=h
 obtain ⟨xs,k,hk,hxy,_,hxl,hff⟩:=DataW.trod_struct Tryz.underlying25 h2
 match xs,hxl with
 | [y0,y1,y2],_=>
   have g1:=hff 2 _ rfl
   simp [Tryz.cellsEdges,Value.cells] at g1
   simp only [Prod.mk.injEq] at hxy
   obtain ⟨rfl,_⟩:=hxy
   rcases open_slice Tryz.underlying23 g1 with ⟨hcs,_⟩ | ⟨x,len,cap,m,nn,D,Pl,hcs,_,hl,hm,hmm,hy,hx⟩
   · left
     simp at hcs
     exact hcs.2.1
   · right
     simp at hcs
     obtain ⟨rfl,rfl,rfl⟩:=hcs
     rw [hy]
     refine ⟨(((List.range n).map D).length+((List.range (m-n)).map fun j=>D (n+j)).length)*Tryz.prog.bytesOf 47,?_,?_⟩
     · simp [DataW.weights,DataW.weightsEach,Tryz.underlying25,Tryz.underlying23]
     · rw [Tryz.bytesEdge];simp;omega
theorem graph_smallE {H:Type} {enc:TypeId×Value -> H} {W:World} {v0 v1:Value} {ea:Option Addr} {n ec:Nat} {d:DataW H} {ps:List MemPlace} {ts:List TypeId} {ds:List (DataW H)} {j:Nat}
   (hsz:(DataW.weightsEach Tryz.prog ts ds).all (· <= reachBytes)=true) (ht:ts[j]? =some 25) (hd:ds[j]? =some d) (h:DataW.Trod enc Tryz.prog W 0 (fun _=>true) true 25 (.agg #[v0,v1,.slice ea n ec]) d ps):n*40 <= 140737488351232:=by
 rcases graph_weightE h with rfl | ⟨m,hm,hle⟩
 · omega
 · have h1:=List.all_eq_true.1 hsz _ (DataW.weights_mem_each ht hd m hm)
   have h2:m <= reachBytes:=by simpa using h1
   have h3:reachBytes=140737488351232:=by decide
   omega
open Go.ChangeShapes Go.WideShapes Go.ChangeAt Go.RowKit Go.Conc Go.ConcR Crw Lo
def TopMoreWalk:Prop:=∀(g0:Gr) (la0 ea0:Option Addr) (lc0 ec0:Nat) (a1 b1:Int) (x1:List Lg) (xa1:Option Addr) (xc1:Nat) (t2:Int) (t3:Int) (s:World),GAt s la0 ea0 g0 -> g0.lives.length <= lc0 -> lc0 <= 9223372036854775807 -> g0.edges.length*40 <= 140737488351232 -> LgAt s xa1 x1 -> x1.length <= xc1 -> xc1 <= 9223372036854775807 -> Calls Seq.prog 4 #[.agg #[.int .i64 g0.hor,.slice la0 g0.lives.length lc0,.slice ea0 g0.edges.length ec0],.agg #[.int .i64 a1,.int .i64 b1,.slice xa1 x1.length xc1],.int .i64 t2,.int .i64 t3] s fun e w' =>(e= .returned (.bool true) /\ Below s.heap.size s w') \/ (¬Zt (zqs 52) s.tape /\ ∃ch,e= .panicked ch /\ DeadAt w'.heap)
theorem topMore_known:kn.contains 4=true:=by kernel_rfl
set_option maxRecDepth 100000 in
theorem topMore_lifted (hwalk:TopMoreWalk) (os:Os) (started:os.Started) (H:Type) (enc:TypeId×Value -> H):
   ReturnsInLeavingWide {} Tryz.checked os 4 .any (Rows.topMoreSpec.pre6 enc Tryz.prog Tryz.f4 Rows.topMoreRow.domain false) (Rows.topMoreSpec.post enc Tryz.prog Tryz.f4 false true false false):=by
 refine returnsInLeavingWide_of_change_sized (C:=Tryz.checked) Tryz.own started Tryz.func4
   (ChangeSpec.witness6 (enc:=enc) (C:=Tryz.checked) false ⟨#[],#[.agg #[.int .i64 0,.slice none 0 0,.slice none 0 0],.agg #[.int .i64 0,.int .i64 0,.slice none 0 0],.int .i64 0,.int .i64 0],[]⟩ 8 (by kernel_rfl) (by kernel_rfl) (by kernel_rfl) (by kernel_rfl)) ?_
 intro W base args ds gs before hval0 hW _ hsz0 _
 have hval:∀(j:Nat) t v,Tryz.f4.params[j]? =some t -> args[j]? =some v -> Value.okWide Tryz.prog W .any base t v:=hval0
 have hW':=hW
 obtain ⟨p,q,hA0,hV,rfl,hfz,hnd⟩:=hW
 have hA:DataW.TrodAll enc Tryz.prog W 0 (fun _=>true) true Tryz.f4.params.toList args.toList ds p:=hA0
 have hsz:(DataW.weightsEach Tryz.prog (Tryz.f4.params.toList++Rows.topMoreSpec.plain.varTypes Tryz.prog) (ds++gs)).all (· <= reachBytes)=true:=hsz0
 rw [Tryz.params4] at hA hval hsz
 obtain ⟨v0,vs0,d0,ds0,p0,q0,hargs,rfl,rfl,h0,r0⟩:=trodAll_cons hA
 obtain ⟨v1,vs1,d1,ds1,p1,q1,rfl,rfl,rfl,h1,r1⟩:=trodAll_cons r0
 obtain ⟨v2,vs2,d2,ds2,p2,q2,rfl,rfl,rfl,h2,r2⟩:=trodAll_cons r1
 obtain ⟨v3,vs3,d3,ds3,p3,q3,rfl,rfl,rfl,h3,r3⟩:=trodAll_cons r2
 obtain ⟨rfl,rfl,rfl⟩:=trodAll_nil r3
 obtain rfl:args=#[v0,v1,v2,v3]:=by cases args;simp_all
 obtain ⟨rfl,rfl⟩:=trodVars_none hV
 have k0:=h0
 have lt0:∀x∈p0,x.block<W.heap.size:=by obtain ⟨m,hm⟩:=k0;exact DataW.trod_lt m _ _ _ hm
 obtain ⟨g0,la0,ea0,lc0,ec0,rfl,hG0,hl0,hm0⟩:=open_graph (hval 0 25 v0 rfl rfl) h0
 have k1:=h1
 have lt1:∀x∈p1,x.block<W.heap.size:=by obtain ⟨m,hm⟩:=k1;exact DataW.trod_lt m _ _ _ hm
 obtain ⟨a1,b1,x1,xa1,xc1,rfl,hL1,hl1,hm1⟩:=open_edge (hval 1 47 v1 rfl rfl) h1
 obtain ⟨t2,rfl,rfl,rfl,wt2⟩:=open_int Tryz.underlying3 (hval 2 3 v2 rfl rfl) h2
 obtain ⟨t3,rfl,rfl,rfl,wt3⟩:=open_int Tryz.underlying3 (hval 3 3 v3 rfl rfl) h3
 clear hA0 hval0
 refine law_ends (W:=W) topMore_known (by decide) (fun τ d=>(hwalk g0 la0 ea0 lc0 ec0 a1 b1 x1 xa1 xc1 t2 t3 (tp (calmW W) τ d) (gat_calm hG0 τ d) hl0 hm0 (graph_smallE (j:=0) hsz rfl rfl k0) (lg_calm hL1 τ d) hl1 hm1).mono fun e w' h=>h.imp (fun h=>⟨h.1,?_⟩) fun h=>h) (fun W' bel=> ?_)
 · have hb:=h.2
   rwa [show (tp (calmW W) τ d).heap.size=W.heap.size from calm_size W] at hb
 exact ⟨_,_,_,[],_,[],hW',trodAll_mk1 (shut_bool Tryz.underlying4 _),(trodAll_cons_mk (Below.trod Tryz.laidOut (by kernel_rfl) (of_decide_eq_true (by kernel_rfl)) k0 bel lt0) (trodAll_cons_mk (Below.trod Tryz.laidOut (by kernel_rfl) (of_decide_eq_true (by kernel_rfl)) k1 bel lt1) (trodAll_cons_mk (shut_int Tryz.underlying3 wt2) (trodAll_cons_mk (shut_int Tryz.underlying3 wt3) trodAll_mk0)))),rfl,bel.frame _,fun h=>by cases h⟩
theorem topMore_of (hwalk:TopMoreWalk):Rows.TopMoreSaid:=
 OpenClaim.holds_of_wide_leaving 4 Tryz.f4 rfl rfl rfl rfl rfl rfl rfl ⟨rfl,rfl,rfl,rfl,rfl⟩ rfl rfl rfl rfl rfl (by kernel_rfl) Tryz.func4 (by kernel_rfl)
   (of_decide_eq_true (by kernel_rfl)) (by unfold Func.isWrapper;first | (rw [if_pos (by decide+kernel)];kernel_rfl) | (rw [if_neg (by decide+kernel)];exact ⟨rfl,rfl⟩))
   (fun os started H enc _=>topMore_lifted hwalk os started H enc)
end Go.Proofs.YtfphigmeppdocaaGreat
namespace Go.Proofs.YtfphigmeppdocaaGreat.Q
open Lo (Seq.prog)
abbrev Ac:=Int×Int×Int
def vat (x:List Int) (v:Int):Int:=x.getD v.toNat 0
structure Adm (first:List Int) (arcs:List Ac) (p:Ac -> Int) (y:Nat -> Int):Prop where
 le:∀v,v<first.length -> y v <= first.getD v 0
 cl:∀a∈arcs,y a.2.1.toNat <= y a.1.toNat+p a
structure Mid (first:List Int) (arcs:List Ac) (p:Ac -> Int) (x:List Int):Prop where
 len:x.length=first.length
 le:∀v,v<first.length -> x.getD v 0 <= first.getD v 0
 most:∀y,Adm first arcs p y -> ∀v,v<first.length -> y v <= x.getD v 0
structure Best (first:List Int) (arcs:List Ac) (p:Ac -> Int) (x:List Int):Prop where
 mid:Mid first arcs p x
 cl:∀a∈arcs,vat x a.2.1 <= vat x a.1+p a
theorem mid_start (first:List Int) (arcs:List Ac) (p:Ac -> Int):Mid first arcs p first:=⟨rfl,fun _ _=>Int.le_refl _,fun _ h v hv=>h.le v hv⟩
theorem getD_set (x:List Int) (k v:Nat) (m:Int) (hk:k<x.length):(x.set k m).getD v 0=if v=k then m else x.getD v 0:=by
 simp only [List.getD_eq_getElem?_getD,List.getElem?_set]
 by_cases h:k=v
 · subst h;simp [hk]
 · have:¬v=k:=fun e=>h e.symm
   simp [h,this]
theorem mid_set {first:List Int} {arcs:List Ac} {p:Ac -> Int} {x:List Int} {k:Nat} {m:Int} (h:Mid first arcs p x) (hk:k<first.length) (hm:m <= x.getD k 0) (ha:∀y,Adm first arcs p y -> y k <= m):Mid first arcs p (x.set k m):=by
 have hk' :k<x.length:=by rw [h.len];exact hk
 refine ⟨by rw [List.length_set];exact h.len,fun v hv=> ?_,fun y hy v hv=> ?_⟩
 · rw [getD_set _ _ _ _ hk']
   by_cases e:v=k
   · rw [if_pos e];subst e;exact Int.le_trans hm (h.le v hv)
   · rw [if_neg e];exact h.le v hv
 · rw [getD_set _ _ _ _ hk']
   by_cases e:v=k
   · rw [if_pos e];subst e;exact ha y hy
   · rw [if_neg e];exact h.most y hy v hv
def EndsIn (n:Nat) (arcs:List Ac):Prop:=∀a∈arcs,0 <= a.1 /\ a.1<n /\ 0 <= a.2.1 /\ a.2.1<n
theorem mid_arc {first:List Int} {arcs:List Ac} {p:Ac -> Int} {x:List Int} {a:Ac} (h:Mid first arcs p x) (ha:a∈arcs) (hE:EndsIn first.length arcs):∀y,Adm first arcs p y -> y a.2.1.toNat <= vat x a.1+p a:=by
 intro y hy
 have h1:=hy.cl a ha
 have h2:=h.most y hy a.1.toNat (by have:=hE a ha;omega)
 unfold vat;omega
structure Fine (first:List Int) (arcs:List Ac) (p:Ac -> Int):Prop where
 lo:∀v,v<first.length -> 0 <= first.getD v 0
 hi:∀v,v<first.length -> first.getD v 0 <= 1099511627776
 pl:∀a∈arcs,0 <= p a /\ p a <= 1000
 en:EndsIn first.length arcs
theorem Mid.lo {first:List Int} {arcs:List Ac} {p:Ac -> Int} {x:List Int} (h:Mid first arcs p x) (f:Fine first arcs p) (v:Nat) (hv:v<first.length):0 <= x.getD v 0:=
 h.most (fun _=>0) ⟨f.lo,fun a ha=>by have:=f.pl a ha;show (0:Int) <= 0+p a;omega⟩ v hv
def msum:List Int -> Nat
 | []=>0
 | z::l=>z.toNat+msum l
def Seen (arcs:List Ac) (p:Ac -> Int) (x:List Int) (i:Nat):Prop:=∀j,(h:j<arcs.length) -> j<i -> vat x arcs[j].2.1 <= vat x arcs[j].1+p arcs[j]
structure Turn (first:List Int) (arcs:List Ac) (p:Ac -> Int) (x z:List Int) (ch:Bool) (i:Nat):Prop where
 mid:Mid first arcs p z
 same:ch=false -> z=x /\ Seen arcs p x i
 less:ch=true -> msum z<msum x
theorem turn_start {first:List Int} {arcs:List Ac} {p:Ac -> Int} {x:List Int} (h:Mid first arcs p x):Turn first arcs p x x false 0:=⟨h,fun _=>⟨rfl,fun _ _ h=>by omega⟩,fun h=>by simp at h⟩
def rel1 (p:Ac -> Int) (back:Bool) (x z:List Int) (a:Ac):List Int:=
 let z1:=z.set a.2.1.toNat (min (vat z a.2.1) (vat x a.1+p a))
 if back=true then z1.set a.1.toNat (min (vat z1 a.1) (vat x a.2.1+p a)) else z1
def rnd (arcs:List Ac) (p:Ac -> Int) (back:Bool) (x:List Int):List Int:=arcs.foldl (rel1 p back x) x
def rnds (arcs:List Ac) (p:Ac -> Int) (back:Bool):Nat -> List Int -> List Int
 | 0,x=>x
 | k+1,x=>rnd arcs p back (rnds arcs p back k x)
def bothW (arcs:List Ac):List Ac:=arcs.flatMap fun a=>[a,(a.2.1,a.1,a.2.2)]
def ways (back:Bool) (arcs:List Ac):List Ac:=if back=true then bothW arcs else arcs
theorem mem_both {arcs:List Ac} {b:Ac}:b∈bothW arcs↔∃a∈arcs,b=a \/ b=(a.2.1,a.1,a.2.2):=by simp [bothW]
def Even (p:Ac -> Int):Prop:=∀a:Ac,p (a.2.1,a.1,a.2.2)=p a
theorem rel1_length (p:Ac -> Int) (back:Bool) (x z:List Int) (a:Ac):(rel1 p back x z a).length=z.length:=by
 unfold rel1;cases back<;>simp
theorem foldl_rel1_length (p:Ac -> Int) (back:Bool) (x:List Int):∀(l:List Ac) (z:List Int),(l.foldl (rel1 p back x) z).length=z.length
 | [],_=>rfl
 | a::l,z=>by rw [List.foldl_cons,foldl_rel1_length p back x l,rel1_length]
theorem rnd_length (arcs:List Ac) (p:Ac -> Int) (back:Bool) (x:List Int):(rnd arcs p back x).length=x.length:=foldl_rel1_length _ _ _ _ _
theorem rnds_length (arcs:List Ac) (p:Ac -> Int) (back:Bool):∀(k:Nat) (x:List Int),(rnds arcs p back k x).length=x.length
 | 0,_=>rfl
 | k+1,x=>by rw [rnds,rnd_length,rnds_length arcs p back k]
theorem fold_take (arcs:List Ac) (p:Ac -> Int) (back:Bool) (x:List Int) (i:Nat) (hi:i<arcs.length):(arcs.take (i+1)).foldl (rel1 p back x) x=rel1 p back x ((arcs.take i).foldl (rel1 p back x) x) arcs[i]:=by
 rw [List.take_succ_eq_append_getElem hi,List.foldl_append];rfl
structure Rn (first:List Int) (arcs:List Ac) (p:Ac -> Int) (back:Bool) (x z:List Int) (i:Nat):Prop where
 mid:Mid first (ways back arcs) p z
 le:∀v,v<first.length -> z.getD v 0 <= x.getD v 0
 told:∀j,(h:j<arcs.length) -> j<i -> vat z arcs[j].2.1 <= vat x arcs[j].1+p arcs[j] /\ (back=true -> vat z arcs[j].1 <= vat x arcs[j].2.1+p arcs[j])
theorem mem_ways {back:Bool} {arcs:List Ac} {a:Ac} (h:a∈arcs):a∈ways back arcs /\ (back=true -> (a.2.1,a.1,a.2.2)∈ways back arcs):=by
 unfold ways
 cases back
 · exact ⟨h,fun h=>by simp at h⟩
 · exact ⟨mem_both.2 ⟨a,h,.inl rfl⟩,fun _=>mem_both.2 ⟨a,h,.inr rfl⟩⟩
theorem rn_start {first:List Int} {arcs:List Ac} {p:Ac -> Int} {back:Bool} {x:List Int} (h:Mid first (ways back arcs) p x):Rn first arcs p back x x 0:=⟨h,fun _ _=>Int.le_refl _,fun _ _ h=>by omega⟩
theorem vat_set {x:List Int} {k:Nat} {m v:Int} (hk:k<x.length):vat (x.set k m) v=if v.toNat=k then m else vat x v:=by unfold vat;exact getD_set _ _ _ _ hk
theorem rn_next {first:List Int} {arcs:List Ac} {p:Ac -> Int} {back:Bool} {x z:List Int} {i:Nat} (f:Fine first (ways back arcs) p) (he:back=true -> Even p) (hx:Mid first (ways back arcs) p x) (R:Rn first arcs p back x z i) (hi:i<arcs.length):Rn first arcs p back x (rel1 p back x z arcs[i]) (i+1):=by
 have hm:arcs[i]∈arcs:=List.getElem_mem hi
 obtain ⟨hw,hw2⟩:=mem_ways (back:=back) hm
 have en:=f.en _ hw
 have k1:arcs[i].2.1.toNat<first.length:=by omega
 have k2:arcs[i].1.toNat<first.length:=by omega
 have M1:Mid first (ways back arcs) p (z.set arcs[i].2.1.toNat (min (vat z arcs[i].2.1) (vat x arcs[i].1+p arcs[i]))):=by
   refine mid_set R.mid k1 (by unfold vat;omega) (fun y hy=> ?_)
   have h1:=mid_arc hx hw f.en y hy
   have h2:=R.mid.most y hy _ k1
   unfold vat at h1 ⊢;omega
 have L1:∀v,v<first.length -> (z.set arcs[i].2.1.toNat (min (vat z arcs[i].2.1) (vat x arcs[i].1+p arcs[i]))).getD v 0 <= z.getD v 0:=by
   intro v hv
   rw [getD_set _ _ _ _ (by rw [R.mid.len];exact k1)]
   by_cases e:v=arcs[i].2.1.toNat
   · rw [if_pos e,e];unfold vat;omega
   · rw [if_neg e];exact Int.le_refl _
 have V1:vat (z.set arcs[i].2.1.toNat (min (vat z arcs[i].2.1) (vat x arcs[i].1+p arcs[i]))) arcs[i].2.1 <= vat x arcs[i].1+p arcs[i]:=by
   rw [vat_set (by rw [R.mid.len];exact k1),if_pos rfl];omega
 unfold rel1
 generalize z.set arcs[i].2.1.toNat (min (vat z arcs[i].2.1) (vat x arcs[i].1+p arcs[i]))=z1 at M1 L1 V1 ⊢
 have T1:∀j,(h:j<arcs.length) -> j<i+1 -> vat z1 arcs[j].2.1 <= vat x arcs[j].1+p arcs[j]:=by
   intro j hj hji
   by_cases e:j=i
   · subst e;exact V1
   · have hj2:=mem_ways (back:=back) (List.getElem_mem hj)
     have:=(R.told j hj (by omega)).1
     have h3:=L1 arcs[j].2.1.toNat (by have:=f.en _ hj2.1;omega)
     unfold vat at this ⊢;omega
 cases back
 · simp only [Bool.false_eq_true,if_false]
   exact ⟨M1,fun v hv=>Int.le_trans (L1 v hv) (R.le v hv),fun j hj hji=>⟨T1 j hj hji,fun h=>by simp at h⟩⟩
 · simp only [if_true]
   have hev:=he rfl
   have L2:∀v,v<first.length -> (z1.set arcs[i].1.toNat (min (vat z1 arcs[i].1) (vat x arcs[i].2.1+p arcs[i]))).getD v 0 <= z1.getD v 0:=by
     intro v hv
     rw [getD_set _ _ _ _ (by rw [M1.len];exact k2)]
     by_cases e:v=arcs[i].1.toNat
     · rw [if_pos e,e];unfold vat;omega
     · rw [if_neg e];exact Int.le_refl _
   refine ⟨mid_set M1 k2 (by unfold vat;omega) (fun y hy=> ?_),fun v hv=>Int.le_trans (L2 v hv) (Int.le_trans (L1 v hv) (R.le v hv)),fun j hj hji=>⟨?_,fun _=> ?_⟩⟩
   · have h1:=mid_arc hx (hw2 rfl) f.en y hy
     have h2:=M1.most y hy _ k2
     simp only [hev arcs[i]] at h1
     unfold vat at h1 ⊢;omega
   · have h1:=T1 j hj hji
     have hj2:=mem_ways (back:=true) (List.getElem_mem hj)
     have h3:=L2 arcs[j].2.1.toNat (by have:=f.en _ hj2.1;omega)
     unfold vat at h1 h3 ⊢;omega
   · by_cases e:j=i
     · subst e;rw [vat_set (by rw [M1.len];exact k2),if_pos rfl];omega
     · have hj2:=mem_ways (back:=true) (List.getElem_mem hj)
       have h1:=(R.told j hj (by omega)).2 rfl
       have h4:=L1 arcs[j].1.toNat (by have:=f.en _ hj2.1;omega)
       have h3:=L2 arcs[j].1.toNat (by have:=f.en _ hj2.1;omega)
       unfold vat at h1 h3 h4 ⊢;omega
theorem rn_fold {first:List Int} {arcs:List Ac} {p:Ac -> Int} {back:Bool} {x:List Int} (f:Fine first (ways back arcs) p) (he:back=true -> Even p) (hx:Mid first (ways back arcs) p x):∀i,i <= arcs.length -> Rn first arcs p back x ((arcs.take i).foldl (rel1 p back x) x) i
 | 0,_=>by rw [List.take_zero];exact rn_start hx
 | i+1,h=>by rw [fold_take _ _ _ _ _ (by omega)];exact rn_next f he hx (rn_fold f he hx i (by omega)) (by omega)
theorem rn_round {first:List Int} {arcs:List Ac} {p:Ac -> Int} {back:Bool} {x:List Int} (f:Fine first (ways back arcs) p) (he:back=true -> Even p) (hx:Mid first (ways back arcs) p x):Rn first arcs p back x (rnd arcs p back x) arcs.length:=by
 have:=rn_fold f he hx arcs.length (Nat.le_refl _)
 rw [List.take_length] at this;exact this
theorem rnd_end {first:List Int} {arcs:List Ac} {p:Ac -> Int} {back:Bool} {x:List Int} (f:Fine first (ways back arcs) p) (he:back=true -> Even p) (hx:Mid first (ways back arcs) p x) (h:rnd arcs p back x=x):Best first (ways back arcs) p x:=by
 have R:=rn_round f he hx
 rw [h] at R
 refine ⟨hx,fun b hb=> ?_⟩
 have go:∀a∈arcs,vat x a.2.1 <= vat x a.1+p a /\ (back=true -> vat x a.1 <= vat x a.2.1+p a):=by
   intro a ha
   obtain ⟨i,hi,rfl⟩:=List.getElem_of_mem ha
   exact R.told i hi hi
 unfold ways at hb
 cases back
 · simp only [Bool.false_eq_true,if_false] at hb;exact (go b hb).1
 · simp only [if_true] at hb
   obtain ⟨a,ha,rfl | rfl⟩:=mem_both.1 hb
   · exact (go _ ha).1
   · have:=(go a ha).2 rfl
     rw [he rfl a];exact this
abbrev Lg:=Int×Int×Int×Int
abbrev Ed:=Int×Int×List Lg
structure Gr where
 hor:Int
 lives:List (Int×Int)
 edges:List Ed
def inR (n lo hi:Int):Bool:=decide (lo <= n)&&decide (n <= hi)
def spanB (a b h:Int):Bool:=decide (0 <= a)&&(decide (a<b)&&decide (b <= h))
def fitB (l:Lg) (h:Int):Bool:=spanB l.1 l.2.1 h&&(inR l.2.2.1 1 50&&inR l.2.2.2 0 1000)
def lgChk (h p:Int):List Lg -> Int
 | []=>0
 | l::ls=>if fitB l h=false then 1 else if l.1<p then 5 else lgChk h l.2.1 ls
def edChk (h n:Int) (e:Ed):Int:=if (inR e.1 0 (n- 1)&&inR e.2.1 0 (n- 1))=false then 4 else if 6<e.2.2.length then 2 else lgChk h 0 e.2.2
def edsChk (h n:Int):List Ed -> Int
 | []=>0
 | e::es=>if edChk h n e=0 then edsChk h n es else edChk h n e
def lvChk (h:Int):List (Int×Int) -> Int
 | []=>0
 | p::ps=>if spanB p.1 p.2 h=true then lvChk h ps else 1
def gChk (g:Gr):Int:=
 if inR g.hor 1 100=false then 1 else if 12<g.lives.length \/ 30<g.edges.length then 2 else if lvChk g.hor g.lives≠0 then 1 else edsChk g.hor g.lives.length g.edges
theorem inR_iff (n lo hi:Int):inR n lo hi=true↔lo <= n /\ n <= hi:=by unfold inR;simp
theorem inR_no {n lo hi:Int} (h:¬(lo <= n /\ n <= hi)):inR n lo hi=false:=by rw [<- Bool.not_eq_true,inR_iff];exact h
theorem spanB_iff (a b h:Int):spanB a b h=true↔0 <= a /\ a<b /\ b <= h:=by unfold spanB;simp
theorem spanB_no {a b h:Int} (k:¬(0 <= a /\ a<b /\ b <= h)):spanB a b h=false:=by rw [<- Bool.not_eq_true,spanB_iff];exact k
theorem fitB_iff (l:Lg) (h:Int):fitB l h=true↔(0 <= l.1 /\ l.1<l.2.1 /\ l.2.1 <= h) /\ (1 <= l.2.2.1 /\ l.2.2.1 <= 50) /\ (0 <= l.2.2.2 /\ l.2.2.2 <= 1000):=by
 unfold fitB;rw [Bool.and_eq_true,Bool.and_eq_true,spanB_iff,inR_iff,inR_iff]
theorem drop_get {α:Type} (l:List α) (k:Nat) (h:k<l.length):l.drop k=l[k]::l.drop (k+1):=(List.drop_eq_getElem_cons h)
def prevTo (l:List Lg):Nat -> Int
 | 0=>0
 | k+1=>(l.getD k (0,0,0,0)).2.1
theorem lg_bad {h:Int} {l:List Lg} {k:Nat} (hk:k<l.length) (hI:lgChk h 0 l=lgChk h (prevTo l k) (l.drop k)) (hf:fitB l[k] h=false):lgChk h 0 l=1:=by
 rw [hI,drop_get l k hk,lgChk,if_pos hf]
theorem lg_form {h:Int} {l:List Lg} {k:Nat} (hk:k<l.length) (hI:lgChk h 0 l=lgChk h (prevTo l k) (l.drop k)) (hf:fitB l[k] h=true) (hp:l[k].1<prevTo l k):lgChk h 0 l=5:=by
 rw [hI,drop_get l k hk,lgChk,if_neg (by simp [hf]),if_pos hp]
theorem lg_next {h:Int} {l:List Lg} {k:Nat} (hk:k<l.length) (hI:lgChk h 0 l=lgChk h (prevTo l k) (l.drop k)) (hf:fitB l[k] h=true) (hp:¬l[k].1<prevTo l k):lgChk h 0 l=lgChk h (prevTo l (k+1)) (l.drop (k+1)):=by
 rw [hI,drop_get l k hk,lgChk,if_neg (by simp [hf]),if_neg hp]
 simp [prevTo,List.getD_eq_getElem?_getD,List.getElem?_eq_getElem hk]
theorem lg_end {h:Int} {l:List Lg} (hI:lgChk h 0 l=lgChk h (prevTo l l.length) (l.drop l.length)):lgChk h 0 l=0:=by
 rw [hI,List.drop_length];rfl
theorem prevTo_succ {l:List Lg} {k:Nat} (hk:k<l.length):prevTo l (k+1)=l[k].2.1:=by
 simp [prevTo,List.getD_eq_getElem?_getD,List.getElem?_eq_getElem hk]
theorem eds_stop {h n:Int} {l:List Ed} {k:Nat} (hk:k<l.length) (hI:edsChk h n l=edsChk h n (l.drop k)) (he:edChk h n l[k]≠0):edsChk h n l=edChk h n l[k]:=by
 rw [hI,drop_get l k hk,edsChk,if_neg he]
theorem eds_next {h n:Int} {l:List Ed} {k:Nat} (hk:k<l.length) (hI:edsChk h n l=edsChk h n (l.drop k)) (he:edChk h n l[k]=0):edsChk h n l=edsChk h n (l.drop (k+1)):=by
 rw [hI,drop_get l k hk,edsChk,if_pos he]
theorem eds_end {h n:Int} {l:List Ed} (hI:edsChk h n l=edsChk h n (l.drop l.length)):edsChk h n l=0:=by
 rw [hI,List.drop_length];rfl
theorem lv_stop {h:Int} {l:List (Int×Int)} {k:Nat} (hk:k<l.length) (hI:lvChk h l=lvChk h (l.drop k)) (he:spanB l[k].1 l[k].2 h=false):lvChk h l=1:=by
 rw [hI,drop_get l k hk,lvChk,if_neg (by simp [he])]
theorem lv_next {h:Int} {l:List (Int×Int)} {k:Nat} (hk:k<l.length) (hI:lvChk h l=lvChk h (l.drop k)) (he:spanB l[k].1 l[k].2 h=true):lvChk h l=lvChk h (l.drop (k+1)):=by
 rw [hI,drop_get l k hk,lvChk,if_pos he]
theorem lv_end {h:Int} {l:List (Int×Int)} (hI:lvChk h l=lvChk h (l.drop l.length)):lvChk h l=0:=by
 rw [hI,List.drop_length];rfl
theorem gChk_hor {g:Gr} (h:inR g.hor 1 100=false):gChk g=1:=by unfold gChk;rw [if_pos h]
theorem gChk_large {g:Gr} (h:inR g.hor 1 100=true) (k:12<g.lives.length \/ 30<g.edges.length):gChk g=2:=by unfold gChk;rw [if_neg (by simp [h]),if_pos k]
theorem gChk_life {g:Gr} (h:inR g.hor 1 100=true) (k:¬(12<g.lives.length \/ 30<g.edges.length)) (l:lvChk g.hor g.lives=1):gChk g=1:=by unfold gChk;rw [if_neg (by simp [h]),if_neg k,if_pos (by omega)]
theorem gChk_rest {g:Gr} (h:inR g.hor 1 100=true) (k:¬(12<g.lives.length \/ 30<g.edges.length)) (l:lvChk g.hor g.lives=0):gChk g=edsChk g.hor g.lives.length g.edges:=by unfold gChk;rw [if_neg (by simp [h]),if_neg k,if_neg (by omega)]
structure Right (g:Gr):Prop where
 hor:1 <= g.hor /\ g.hor <= 100
 lvs:g.lives.length <= 12
 eds:g.edges.length <= 30
 life:∀p∈g.lives,0 <= p.1 /\ p.1<p.2 /\ p.2 <= g.hor
 ends:∀e∈g.edges,(0 <= e.1 /\ e.1<g.lives.length) /\ (0 <= e.2.1 /\ e.2.1<g.lives.length) /\ e.2.2.length <= 6
 legs:∀e∈g.edges,∀l∈e.2.2,fitB l g.hor=true
theorem lv_all {h:Int}:∀{l:List (Int×Int)},lvChk h l=0 -> ∀p∈l,spanB p.1 p.2 h=true
 | [],_,p,hp=>by simp at hp
 | q::l,hl,p,hp=>by
   unfold lvChk at hl
   by_cases hq:spanB q.1 q.2 h=true
   · rw [if_pos hq] at hl
     rcases List.mem_cons.1 hp with rfl | hp
     · exact hq
     · exact lv_all hl p hp
   · rw [if_neg hq] at hl;omega
theorem lg_all {h:Int}:∀{l:List Lg} {p:Int},lgChk h p l=0 -> ∀x∈l,fitB x h=true
 | [],_,_,x,hx=>by simp at hx
 | q::l,p,hl,x,hx=>by
   unfold lgChk at hl
   by_cases hq:fitB q h=false
   · rw [if_pos hq] at hl;omega
   · rw [if_neg hq] at hl
     by_cases hp:q.1<p
     · rw [if_pos hp] at hl;omega
     · rw [if_neg hp] at hl
       rcases List.mem_cons.1 hx with rfl | hx
       · simpa using hq
       · exact lg_all hl x hx
theorem eds_all {h n:Int}:∀{l:List Ed},edsChk h n l=0 -> ∀e∈l,edChk h n e=0
 | [],_,e,he=>by simp at he
 | q::l,hl,e,he=>by
   unfold edsChk at hl
   by_cases hq:edChk h n q=0
   · rw [if_pos hq] at hl
     rcases List.mem_cons.1 he with rfl | he
     · exact hq
     · exact eds_all hl e he
   · rw [if_neg hq] at hl;exact absurd hl hq
theorem gChk_right {g:Gr} (h:gChk g=0):Right g:=by
 unfold gChk at h
 by_cases h1:inR g.hor 1 100=false
 · rw [if_pos h1] at h;omega
 rw [if_neg h1] at h
 by_cases h2:12<g.lives.length \/ 30<g.edges.length
 · rw [if_pos h2] at h;omega
 rw [if_neg h2] at h
 by_cases h3:lvChk g.hor g.lives≠0
 · rw [if_pos h3] at h;omega
 rw [if_neg h3] at h
 have e0:=eds_all h
 have hed:∀e∈g.edges,(0 <= e.1 /\ e.1<g.lives.length) /\ (0 <= e.2.1 /\ e.2.1<g.lives.length) /\ e.2.2.length <= 6 /\ lgChk g.hor 0 e.2.2=0:=by
   intro e he
   have:=e0 e he
   unfold edChk at this
   by_cases k1:(inR e.1 0 (g.lives.length- 1)&&inR e.2.1 0 (g.lives.length- 1))=false
   · rw [if_pos k1] at this;omega
   rw [if_neg k1] at this
   by_cases k2:6<e.2.2.length
   · rw [if_pos k2] at this;omega
   rw [if_neg k2] at this
   rw [Bool.not_eq_false,Bool.and_eq_true,inR_iff,inR_iff] at k1
   exact ⟨⟨k1.1.1,by omega⟩,⟨k1.2.1,by omega⟩,by omega,this⟩
 refine ⟨(inR_iff _ _ _).1 (by simpa using h1),by omega,by omega,fun p hp=>(spanB_iff _ _ _).1 (lv_all (by omega) p hp),fun e he=> ?_,fun e he l hl=>lg_all (hed e he).2.2.2 l hl⟩
 have:=hed e he
 exact ⟨this.1,this.2.1,this.2.2.1⟩
def hasB (a b t:Int):Bool:=decide (a <= t)&&decide (t<b)
def lgFind (t:Int):List Lg -> Option Lg
 | []=>none
 | l::ls=>if hasB l.1 l.2.1 t=true then some l else lgFind t ls
def aliveL (t:Int) (lives:List (Int×Int)):List Bool:=lives.map fun p=>hasB p.1 p.2 t
def aliveB (t:Int) (lives:List (Int×Int)) (v:Int):Bool:=(aliveL t lives).getD v.toNat false
def arcOf (t:Int) (lives:List (Int×Int)) (e:Ed):List (Int×Int×Int):=
 match lgFind t e.2.2 with
 | none=>[]
 | some l=>if (aliveB t lives e.1&&aliveB t lives e.2.1)=true then [(e.1,e.2.1,l.2.2.2)] else []
def arcsL (t:Int) (lives:List (Int×Int)) (edges:List Ed):List (Int×Int×Int):=edges.flatMap (arcOf t lives)
theorem hasB_iff (a b t:Int):hasB a b t=true↔a <= t /\ t<b:=by unfold hasB;simp
theorem hasB_no {a b t:Int} (h:¬(a <= t /\ t<b)):hasB a b t=false:=by rw [<- Bool.not_eq_true,hasB_iff];exact h
theorem lgFind_hit {t:Int} {l:List Lg} {k:Nat} (hk:k<l.length) (hI:lgFind t l=lgFind t (l.drop k)) (h:hasB l[k].1 l[k].2.1 t=true):lgFind t l=some l[k]:=by
 rw [hI,drop_get l k hk,lgFind,if_pos h]
theorem lgFind_next {t:Int} {l:List Lg} {k:Nat} (hk:k<l.length) (hI:lgFind t l=lgFind t (l.drop k)) (h:hasB l[k].1 l[k].2.1 t=false):lgFind t l=lgFind t (l.drop (k+1)):=by
 rw [hI,drop_get l k hk,lgFind,if_neg (by simp [h])]
theorem lgFind_end {t:Int} {l:List Lg} (hI:lgFind t l=lgFind t (l.drop l.length)):lgFind t l=none:=by rw [hI,List.drop_length];rfl
theorem aliveL_length (t:Int) (lives:List (Int×Int)):(aliveL t lives).length=lives.length:=by simp [aliveL]
theorem aliveB_at (t:Int) (lives:List (Int×Int)) (v:Nat) (h:v<lives.length):aliveB t lives v=hasB lives[v].1 lives[v].2 t:=by
 unfold aliveB aliveL
 rw [Int.toNat_natCast,List.getD_eq_getElem?_getD,List.getElem?_map,List.getElem?_eq_getElem h];rfl
theorem arcOf_some {t:Int} {lives:List (Int×Int)} {e:Ed} {l:Lg} (h:lgFind t e.2.2=some l) (k:(aliveB t lives e.1&&aliveB t lives e.2.1)=true):arcOf t lives e=[(e.1,e.2.1,l.2.2.2)]:=by
 unfold arcOf;rw [h];simp only [k,if_true]
theorem arcOf_len (t:Int) (lives:List (Int×Int)) (e:Ed):(arcOf t lives e).length <= 1:=by
 unfold arcOf
 split
 · simp
 · split<;>simp
theorem arcs_len (t:Int) (lives:List (Int×Int)):∀edges:List Ed,(arcsL t lives edges).length <= edges.length
 | []=>by simp [arcsL]
 | e::es=>by
   have h1:=arcs_len t lives es
   have h2:=arcOf_len t lives e
   unfold arcsL at h1 ⊢
   rw [List.flatMap_cons,List.length_append,List.length_cons];omega
def lands (g:Gr) (e:Ed) (t:Int):Option (Int×Int):=
 match lgFind t e.2.2 with
 | none=>none
 | some l=>if (aliveB t g.lives e.1&&(decide (t+l.2.2.1<g.hor)&&aliveB (t+l.2.2.1) g.lives e.2.1))=true then some (t+l.2.2.1,l.2.2.2) else none
theorem lands_none {g:Gr} {e:Ed} {t:Int} (h:lgFind t e.2.2=none):lands g e t=none:=by unfold lands;rw [h]
theorem lands_no {g:Gr} {e:Ed} {t:Int} {l:Lg} (h:lgFind t e.2.2=some l) (k:(aliveB t g.lives e.1&&(decide (t+l.2.2.1<g.hor)&&aliveB (t+l.2.2.1) g.lives e.2.1))=false):lands g e t=none:=by
 unfold lands;rw [h];simp only [k];rfl
theorem lands_yes {g:Gr} {e:Ed} {t:Int} {l:Lg} (h:lgFind t e.2.2=some l) (k:(aliveB t g.lives e.1&&(decide (t+l.2.2.1<g.hor)&&aliveB (t+l.2.2.1) g.lives e.2.1))=true):lands g e t=some (t+l.2.2.1,l.2.2.2):=by
 unfold lands;rw [h];simp only [k,if_true]
theorem lgFind_mem {t:Int} {ls:List Lg} {l:Lg} (h:lgFind t ls=some l):l∈ls /\ l.1 <= t /\ t<l.2.1:=by
 induction ls with
 | nil=>cases h
 | cons x ls ih=>
   rw [lgFind] at h
   split at h
   · rename_i hx;cases h;exact ⟨by simp,(hasB_iff _ _ _).1 hx⟩
   · have:=ih h;exact ⟨by simp [this.1],this.2⟩
theorem lands_spec {g:Gr} {e:Ed} {t tq c:Int} (h:lands g e t=some (tq,c)):∃l∈e.2.2,l.1 <= t /\ t<l.2.1 /\ tq=t+l.2.2.1 /\ c=l.2.2.2 /\ aliveB t g.lives e.1=true /\ tq<g.hor /\ aliveB tq g.lives e.2.1=true:=by
 unfold lands at h
 split at h
 · cases h
 · rename_i l hl
   split at h
   · rename_i hk
     simp only [Option.some.injEq,Prod.mk.injEq] at h
     simp only [Bool.and_eq_true,decide_eq_true_eq] at hk
     obtain ⟨h1,h2,h3⟩:=lgFind_mem hl
     exact ⟨l,h1,h2,h3,h.1.symm,h.2.symm,hk.1,by omega,by rw [<- h.1];exact hk.2.2⟩
   · cases h
def placeE (g:Gr) (v t:Int):Int:=if gChk g=0 then if inR v 0 ((g.lives.length:Int)- 1)=true then if inR t 0 (g.hor- 1)=true then 0 else 1 else 4 else gChk g
theorem placeE_zero {g:Gr} {v t:Int} (h:placeE g v t=0):gChk g=0 /\ (0 <= v /\ v<(g.lives.length:Int)) /\ 0 <= t /\ t<g.hor:=by
 unfold placeE at h
 split at h
 · rename_i h0
   split at h
   · rename_i h1
     split at h
     · rename_i h2
       rw [inR_iff] at h1 h2
       exact ⟨h0,by omega,by omega⟩
     · cases h
   · cases h
 · rename_i h0;exact absurd h h0
abbrev Hp:=Int×Int
def hopF (g:Gr) (s:Int×Int×Int) (h:Hp):Option (Int×Int×Int):=
 if inR h.1 0 ((g.edges.length:Int)- 1)=true then
   if (g.edges.getD h.1.toNat (0,0,[])).1=s.1 /\ s.2.1 <= h.2 then
     match lands g (g.edges.getD h.1.toNat (0,0,[])) h.2 with
     | none=>none
     | some q=>some ((g.edges.getD h.1.toNat (0,0,[])).2.1,q.1,s.2.2+q.2)
   else none
 else none
def goF (g:Gr) (s:Option (Int×Int×Int)) (l:List Hp):Option (Int×Int×Int):=l.foldl (fun s h=>s.bind fun s=>hopF g s h) s
abbrev JA:=Nat×Nat×Nat×Nat×Int
abbrev Tb:=List (List Int)
def tat (T:Tb) (v t:Nat):Int:=(T.getD v []).getD t 0
def src (T:Tb) (a:JA):Int:=tat T a.1 a.2.1
def dst (T:Tb) (a:JA):Int:=tat T a.2.2.1 a.2.2.2.1
theorem alive_hor {g:Gr} (R:Right g) {v t:Int} (h:aliveB t g.lives v=true):v.toNat<g.lives.length /\ 0 <= t /\ t<g.hor:=by
 unfold aliveB aliveL at h
 by_cases hv:v.toNat<g.lives.length
 · rw [List.getD_eq_getElem?_getD,List.getElem?_map,List.getElem?_eq_getElem hv] at h
   have h':=(hasB_iff _ _ _).1 (show hasB g.lives[v.toNat].1 g.lives[v.toNat].2 t=true from h)
   have:=R.life _ (List.getElem_mem hv)
   exact ⟨hv,by omega,by omega⟩
 · rw [List.getD_eq_getElem?_getD,List.getElem?_eq_none (by simpa using hv)] at h
   cases h
def nextF (g:Gr) (s:Int×Int×Int) (h:Hp):Option (Int×Int×Int):=if aliveB s.2.1 g.lives s.1=true then hopF g s h else none
theorem nextF_out {g:Gr} {s:Int×Int×Int} {h:Hp} (k:¬(0 <= h.1 /\ h.1<g.edges.length)):nextF g s h=none:=by
 unfold nextF hopF
 split
 · rw [if_neg (by rw [inR_iff];omega)]
 · rfl
theorem nextF_at {g:Gr} {s:Int×Int×Int} {h:Hp} {E:Nat} (e:h.1=(E:Int)) (hE:E<g.edges.length):
   nextF g s h=if aliveB s.2.1 g.lives s.1=true /\ g.edges[E].1=s.1 /\ s.2.1 <= h.2 then (lands g g.edges[E] h.2).map fun q=>(g.edges[E].2.1,q.1,s.2.2+q.2) else none:=by
 have hg:g.edges.getD h.1.toNat (0,0,[])=g.edges[E]:=by rw [e,Int.toNat_natCast,List.getD_eq_getElem?_getD,List.getElem?_eq_getElem hE];rfl
 unfold nextF hopF
 by_cases h1:aliveB s.2.1 g.lives s.1=true
 · rw [if_pos h1,if_pos ((inR_iff _ _ _).2 (by omega)),hg]
   by_cases h2:g.edges[E].1=s.1 /\ s.2.1 <= h.2
   · rw [if_pos h2,if_pos ⟨h1,h2⟩]
     cases lands g g.edges[E] h.2<;>rfl
   · rw [if_neg h2,if_neg (fun h=>h2 h.2)]
 · rw [if_neg h1,if_neg (fun h=>h1 h.1)]
theorem nextF_no {g:Gr} {s:Int×Int×Int} {h:Hp} {E:Nat} (e:h.1=(E:Int)) (hE:E<g.edges.length)
   (k:lgFind h.2 g.edges[E].2.2=none \/ g.edges[E].1≠s.1 \/ ¬s.2.1 <= h.2 \/ aliveB s.2.1 g.lives s.1=false \/ aliveB h.2 g.lives s.1=false):nextF g s h=none:=by
 rw [nextF_at e hE]
 split
 · rename_i h1
   obtain ⟨h1,h2,h3⟩:=h1
   rcases k with k | k | k | k | k
   · rw [lands_none k];rfl
   · exact absurd h2 k
   · exact absurd h3 k
   · rw [h1] at k;cases k
   · cases hf:lgFind h.2 g.edges[E].2.2 with
     | none=>rw [lands_none hf];rfl
     | some l=>rw [lands_no hf (by rw [h2,k];rfl)];rfl
 · rfl
theorem nextF_leg {g:Gr} (R:Right g) {s:Int×Int×Int} {h:Hp} {E:Nat} {l:Lg} (e:h.1=(E:Int)) (hE:E<g.edges.length)
   (k1:lgFind h.2 g.edges[E].2.2=some l) (k2:g.edges[E].1=s.1) (k3:s.2.1 <= h.2) (k4:aliveB s.2.1 g.lives s.1=true) (k5:aliveB h.2 g.lives s.1=true):
   nextF g s h=if aliveB (h.2+l.2.2.1) g.lives g.edges[E].2.1=true then some (g.edges[E].2.1,h.2+l.2.2.1,s.2.2+l.2.2.2) else none:=by
 rw [nextF_at e hE,if_pos ⟨k4,k2,k3⟩]
 by_cases k6:aliveB (h.2+l.2.2.1) g.lives g.edges[E].2.1=true
 · rw [if_pos k6,lands_yes k1 (by rw [k2,k5,k6,decide_eq_true (alive_hor R k6).2.2];rfl)];rfl
 · rw [if_neg k6,lands_no k1 (by rw [Bool.not_eq_true] at k6;rw [k6];simp)];rfl
theorem goF_cons (g:Gr) (s:Option (Int×Int×Int)) (h:Hp) (l:List Hp):goF g s (h::l)=goF g (s.bind fun s=>hopF g s h) l:=rfl
def HLt (a b:Hp):Prop:=a.2<b.2 \/ (a.2=b.2 /\ a.1<b.1)
inductive Rch (g:Gr) (v0 t0:Int):Int -> Int -> Prop
 | base:aliveB t0 g.lives v0=true -> Rch g v0 t0 v0 t0
 | wait {v t:Int}:Rch g v0 t0 v t -> aliveB (t+1) g.lives v=true -> Rch g v0 t0 v (t+1)
 | ride {t:Int} {q:Int×Int} (i:Nat) (hi:i<g.edges.length):Rch g v0 t0 g.edges[i].1 t -> lands g g.edges[i] t=some q -> Rch g v0 t0 g.edges[i].2.1 q.1
theorem lands_lt {g:Gr} (R:Right g) {i:Nat} (hi:i<g.edges.length) {t:Int} {q:Int×Int} (h:lands g g.edges[i] t=some q):t<q.1 /\ aliveB t g.lives g.edges[i].1=true /\ aliveB q.1 g.lives g.edges[i].2.1=true /\ q.1<g.hor /\ 0 <= q.2 /\ q.2 <= 1000:=by
 obtain ⟨l,hl,k1,k2,k3,k4,k5,k6,k7⟩:=lands_spec (tq:=q.1) (c:=q.2) h
 have hf:=(fitB_iff _ _).1 (R.legs _ (List.getElem_mem hi) l hl)
 exact ⟨by omega,k5,k7,k6,by omega,by omega⟩
theorem alive_mid {g:Gr} {v a b c:Int} (h1:aliveB a g.lives v=true) (h2:aliveB c g.lives v=true) (k1:a <= b) (k2:b <= c):aliveB b g.lives v=true:=by
 unfold aliveB aliveL at*
 by_cases hv:v.toNat<g.lives.length
 · rw [List.getD_eq_getElem?_getD,List.getElem?_map,List.getElem?_eq_getElem hv] at*
   have h1:=(hasB_iff _ _ _).1 (show hasB g.lives[v.toNat].1 g.lives[v.toNat].2 a=true from h1)
   have h2:=(hasB_iff _ _ _).1 (show hasB g.lives[v.toNat].1 g.lives[v.toNat].2 c=true from h2)
   exact (hasB_iff _ _ _).2 (by omega)
 · rw [List.getD_eq_getElem?_getD,List.getElem?_eq_none (by simpa using hv)] at h1
   cases h1
theorem Rch.alive {g:Gr} (R:Right g) {v0 t0 v t:Int} (h:Rch g v0 t0 v t):aliveB t g.lives v=true:=by
 cases h with
 | base h=>exact h
 | wait _ h=>exact h
 | ride i hi _ h=>exact (lands_lt R hi h).2.2.1
theorem Rch.le {g:Gr} (R:Right g) {v0 t0 v t:Int} (h:Rch g v0 t0 v t):t0 <= t:=by
 induction h with
 | base h=>omega
 | wait _ _ ih=>omega
 | ride i hi _ h ih=>have:=(lands_lt R hi h).1;omega
theorem Rch.stay {g:Gr} {v0 t0 v t:Int} (h:Rch g v0 t0 v t) (ha:aliveB t g.lives v=true):∀n:Nat,aliveB (t+n) g.lives v=true -> Rch g v0 t0 v (t+n)
 | 0,_=>by simpa using h
 | n+1,hn=>by
   have h1:aliveB (t+n) g.lives v=true:=alive_mid ha hn (by omega) (by omega)
   have h2:=(h.stay ha n h1).wait (by rw [show t+(n:Int)+1=t+((n+1:Nat):Int) by omega];exact hn)
   rw [show t+(n:Int)+1=t+((n+1:Nat):Int) by omega] at h2
   exact h2
theorem Rch.waits {g:Gr} (R:Right g) {v0 t0 v t t' :Int} (h:Rch g v0 t0 v t) (ht:t <= t') (ha:aliveB t' g.lives v=true):Rch g v0 t0 v t':=by
 have e:t' =t+((t' -t).toNat:Int):=by omega
 rw [e] at ha ⊢
 exact h.stay (h.alive R) _ ha
theorem Rch.place {g:Gr} (R:Right g) {v0 t0 v t:Int} (h0:0 <= v0) (h:Rch g v0 t0 v t):0 <= v /\ v<g.lives.length /\ 0 <= t /\ t<g.hor:=by
 have ha:=alive_hor R (h.alive R)
 have:0 <= v:=by
   clear ha
   induction h with
   | base h=>exact h0
   | wait _ _ ih=>exact ih
   | ride i hi _ h ih=>exact (R.ends _ (List.getElem_mem hi)).2.1.1
 omega
abbrev Ri:=Int×Int×Int×Int×Int×Int
def ridesAt (g:Gr) (d:Int):Nat -> List Ri
 | 0=>[]
 | i+1=>ridesAt g d i++
   match lands g (g.edges.getD i (0,0,[])) d with
   | none=>[]
   | some q=>[((i:Int),d,(g.edges.getD i (0,0,[])).1,(g.edges.getD i (0,0,[])).2.1,q.1,q.2)]
def ridesTo (g:Gr):Nat -> List Ri
 | 0=>[]
 | k+1=>ridesTo g k++ridesAt g (k:Int) g.edges.length
def ridesF (g:Gr):List Ri:=ridesTo g g.hor.toNat
theorem ridesAt_len (g:Gr) (d:Int) (i:Nat):(ridesAt g d i).length <= i:=by
 induction i with
 | zero=>simp [ridesAt]
 | succ i ih=>
   rw [ridesAt,List.length_append]
   split<;>simp<;>omega
theorem ridesTo_len (g:Gr) (k:Nat):(ridesTo g k).length <= k*g.edges.length:=by
 induction k with
 | zero=>simp [ridesTo]
 | succ k ih=>
   have:=ridesAt_len g (k:Int) g.edges.length
   rw [ridesTo,List.length_append,Nat.succ_mul];omega
theorem edge_getD {g:Gr} {i:Nat} (hi:i<g.edges.length):g.edges.getD i (0,0,[])=g.edges[i]:=by rw [List.getD_eq_getElem?_getD,List.getElem?_eq_getElem hi];rfl
theorem mem_ridesAt {g:Gr} {d:Int} {r:Ri}:∀{i:Nat},i <= g.edges.length -> (r∈ridesAt g d i↔∃(j:Nat) (hj:j<g.edges.length) (q:Int×Int),j<i /\ lands g g.edges[j] d=some q /\ r=((j:Int),d,g.edges[j].1,g.edges[j].2.1,q.1,q.2))
 | 0,_=>by simp [ridesAt]
 | i+1,hi=>by
   rw [ridesAt,List.mem_append,mem_ridesAt (by omega),edge_getD (show i<g.edges.length by omega)]
   constructor
   · rintro (⟨j,hj,q,h1,h2⟩ | h1)
     · exact ⟨j,hj,q,by omega,h2⟩
     · split at h1
       · cases h1
       · rename_i q hq
         rw [List.mem_singleton] at h1
         exact ⟨i,by omega,q,by omega,hq,h1⟩
   · rintro ⟨j,hj,q,h1,h2,h3⟩
     rcases Nat.lt_or_ge j i with h4 | h4
     · exact .inl ⟨j,hj,q,h4,h2,h3⟩
     · have:j=i:=by omega
       subst this
       right;rw [h2,h3];simp
theorem mem_ridesTo {g:Gr} {r:Ri}:∀{k:Nat},r∈ridesTo g k↔∃j:Nat,j<k /\ r∈ridesAt g (j:Int) g.edges.length
 | 0=>by simp [ridesTo]
 | k+1=>by
   rw [ridesTo,List.mem_append,mem_ridesTo]
   constructor
   · rintro (⟨j,h1,h2⟩ | h1)
     · exact ⟨j,by omega,h2⟩
     · exact ⟨k,by omega,h1⟩
   · rintro ⟨j,h1,h2⟩
     rcases Nat.lt_or_ge j k with h4 | h4
     · exact .inl ⟨j,h4,h2⟩
     · have:j=k:=by omega
       subst this
       exact .inr h2
structure RideOk (g:Gr) (r:Ri):Prop where
 e0:0 <= r.1 /\ r.1<g.edges.length
 d0:0 <= r.2.1
 a0:0 <= r.2.2.1 /\ r.2.2.1<g.lives.length
 b0:0 <= r.2.2.2.1 /\ r.2.2.2.1<g.lives.length
 lt:r.2.1<r.2.2.2.2.1
 hor:r.2.2.2.2.1<g.hor
 alA:aliveB r.2.1 g.lives r.2.2.1=true
 alB:aliveB r.2.2.2.2.1 g.lives r.2.2.2.1=true
 go:∀{v0 t0:Int},Rch g v0 t0 r.2.2.1 r.2.1 -> Rch g v0 t0 r.2.2.2.1 r.2.2.2.2.1
 hop:∀{t c:Int},t <= r.2.1 -> hopF g (r.2.2.1,t,c) (r.1,r.2.1)=some (r.2.2.2.1,r.2.2.2.2.1,c+r.2.2.2.2.2)
 c0:0 <= r.2.2.2.2.2 /\ r.2.2.2.2.2 <= 1000
 ln:lands g (g.edges.getD r.1.toNat (0,0,[])) r.2.1=some (r.2.2.2.2.1,r.2.2.2.2.2)
 edA:(g.edges.getD r.1.toNat (0,0,[])).1=r.2.2.1
 edB:(g.edges.getD r.1.toNat (0,0,[])).2.1=r.2.2.2.1
theorem rideOk_of {g:Gr} (R:Right g) {j:Nat} (hj:j<g.edges.length) {d:Nat} {q:Int×Int} (hq:lands g g.edges[j] (d:Int)=some q):RideOk g ((j:Int),(d:Int),g.edges[j].1,g.edges[j].2.1,q.1,q.2):=by
 obtain ⟨h1,h2,h3,h4,_,_⟩:=lands_lt R hj hq
 obtain ⟨hA,hB,_⟩:=R.ends _ (List.getElem_mem hj)
 refine ⟨⟨by simp only;omega,by simp only;omega⟩,by simp only;omega,hA,hB,h1,h4,h2,h3,fun h=> .ride j hj h hq,fun {t c} ht=> ?_,(lands_lt R hj hq).2.2.2.2,?_,?_,?_⟩
 · simp only at ht
   unfold hopF
   rw [if_pos ((inR_iff _ _ _).2 (by simp only;omega))]
   simp only [Int.toNat_natCast]
   rw [edge_getD hj,if_pos ⟨rfl,ht⟩,hq]
 · simp only [Int.toNat_natCast];rw [edge_getD hj];exact hq
 · simp only [Int.toNat_natCast];rw [edge_getD hj]
 · simp only [Int.toNat_natCast];rw [edge_getD hj]
theorem mem_rides {g:Gr} (R:Right g) {r:Ri} (h:r∈ridesF g):RideOk g r:=by
 obtain ⟨k,hk,h⟩:=mem_ridesTo.1 h
 obtain ⟨j,hj,q,_,hq,rfl⟩:=(mem_ridesAt (Nat.le_refl _)).1 h
 exact rideOk_of R hj hq
theorem ride_mem {g:Gr} (R:Right g) {j:Nat} (hj:j<g.edges.length) {d:Int} (hd:0 <= d) {q:Int×Int} (hq:lands g g.edges[j] d=some q):((j:Int),d,g.edges[j].1,g.edges[j].2.1,q.1,q.2)∈ridesF g:=by
 obtain ⟨h1,h2,h3,h4,_,_⟩:=lands_lt R hj hq
 refine mem_ridesTo.2 ⟨d.toNat,by omega,(mem_ridesAt (Nat.le_refl _)).2 ⟨j,hj,q,hj,?_,?_⟩⟩
 · rw [show ((d.toNat:Nat):Int)=d by omega];exact hq
 · rw [show ((d.toNat:Nat):Int)=d by omega]
theorem ridesTo_sorted (g:Gr):∀k:Nat,(ridesTo g k).Pairwise fun a b=>a.2.1 <= b.2.1
 | 0=>by simp [ridesTo]
 | k+1=>by
   have hd:∀a∈ridesAt g (k:Int) g.edges.length,a.2.1=(k:Int):=fun a ha=>by
     obtain ⟨j,hj,q,_,_,rfl⟩:=(mem_ridesAt (Nat.le_refl _)).1 ha;rfl
   rw [ridesTo,List.pairwise_append]
   refine ⟨ridesTo_sorted g k,?_,?_⟩
   · exact List.pairwise_of_forall_mem_list fun a ha b hb=>by rw [hd a ha,hd b hb];omega
   · intro a ha b hb
     obtain ⟨j,h1,h2⟩:=mem_ridesTo.1 ha
     obtain ⟨i,hi,q,_,_,rfl⟩:=(mem_ridesAt (Nat.le_refl _)).1 h2
     rw [hd b hb];simp only;omega
def erT (T:List Int) (r:Ri):List Int:=if T.getD r.2.2.1.toNat 0 <= r.2.1 /\ r.2.2.2.2.1<T.getD r.2.2.2.1.toNat 0 then T.set r.2.2.2.1.toNat r.2.2.2.2.1 else T
def erL (T:List Int) (L:List Ri) (r:Ri):List Ri:=if T.getD r.2.2.1.toNat 0 <= r.2.1 /\ r.2.2.2.2.1<T.getD r.2.2.2.1.toNat 0 then L.set r.2.2.2.1.toNat r else L
def erGo (s:List Int×List Ri) (l:List Ri):List Int×List Ri:=l.foldl (fun s r=>(erT s.1 r,erL s.1 s.2 r)) s
theorem erGo_nil (s:List Int×List Ri):erGo s []=s:=rfl
theorem erGo_cons (s:List Int×List Ri) (r:Ri) (l:List Ri):erGo s (r::l)=erGo (erT s.1 r,erL s.1 s.2 r) l:=rfl
theorem erGo_app (s:List Int×List Ri) (a b:List Ri):erGo s (a++b)=erGo (erGo s a) b:=by unfold erGo;rw [List.foldl_append]
theorem erGo_take {s:List Int×List Ri} {l:List Ri} {k:Nat} (hk:k<l.length):erGo s (l.take (k+1))=(erT (erGo s (l.take k)).1 l[k],erL (erGo s (l.take k)).1 (erGo s (l.take k)).2 l[k]):=by
 unfold erGo;rw [List.take_succ_eq_append_getElem hk,List.foldl_append];rfl
theorem erT_len (T:List Int) (r:Ri):(erT T r).length=T.length:=by unfold erT;split<;>simp
theorem erL_len (T:List Int) (L:List Ri) (r:Ri):(erL T L r).length=L.length:=by unfold erL;split<;>simp
theorem erGo_len (l:List Ri):∀s:List Int×List Ri,(erGo s l).1.length=s.1.length /\ (erGo s l).2.length=s.2.length:=by
 induction l with
 | nil=>intro s;exact ⟨rfl,rfl⟩
 | cons r l ih=>intro s;rw [erGo_cons];have:=ih (erT s.1 r,erL s.1 s.2 r);simp only [erT_len,erL_len] at this;exact this
theorem getD_setI (T:List Int) (i j:Nat) (x:Int) (h:i<T.length):(T.set i x).getD j 0=if j=i then x else T.getD j 0:=by
 simp only [List.getD_eq_getElem?_getD,List.getElem?_set]
 by_cases e:i=j
 · subst e;simp [h]
 · have:¬j=i:=fun h=>e h.symm
   simp [e,this]
theorem getD_setR (T:List Ri) (i j:Nat) (x d:Ri) (h:i<T.length):(T.set i x).getD j d=if j=i then x else T.getD j d:=by
 simp only [List.getD_eq_getElem?_getD,List.getElem?_set]
 by_cases e:i=j
 · subst e;simp [h]
 · have:¬j=i:=fun h=>e h.symm
   simp [e,this]
theorem erT_le (T:List Int) (r:Ri) (v:Nat):(erT T r).getD v 0 <= T.getD v 0:=by
 unfold erT
 split
 · rename_i h
   by_cases hl:r.2.2.2.1.toNat<T.length
   · rw [getD_setI _ _ _ _ hl];split
     · rename_i e;rw [e];omega
     · omega
   · rw [List.set_eq_of_length_le (by omega)];omega
 · omega
theorem erGo_le (l:List Ri) (v:Nat):∀s:List Int×List Ri,(erGo s l).1.getD v 0 <= s.1.getD v 0:=by
 induction l with
 | nil=>intro s;rw [erGo_nil];omega
 | cons r l ih=>intro s;rw [erGo_cons];have h1:=ih (erT s.1 r,erL s.1 s.2 r);have h2:=erT_le s.1 r v;simp only at h1;omega
theorem erGo_late (t:Int) (v:Nat):∀(l:List Ri) (s:List Int×List Ri),(∀r∈l,t <= r.2.1 /\ r.2.1<r.2.2.2.2.1) -> (erGo s l).1.getD v 0 <= t -> s.1.getD v 0 <= t
 | [],s,_,h=>h
 | r::l,s,hl,h=>by
   rw [erGo_cons] at h
   have h1:=erGo_late t v l _ (fun x hx=>hl x (by simp [hx])) h
   have h2:=hl r (by simp)
   simp only [erT] at h1
   split at h1
   · by_cases hlen:r.2.2.2.1.toNat<s.1.length
     · rw [getD_setI _ _ _ _ hlen] at h1
       split at h1
       · omega
       · exact h1
     · rw [List.set_eq_of_length_le (by omega)] at h1;exact h1
   · exact h1
def er0 (g:Gr) (v t:Int):List Int×List Ri:=((List.replicate g.lives.length (1099511627776:Int)).set v.toNat t,List.replicate g.lives.length (0,0,0,0,0,0))
def erF (g:Gr) (v t:Int):List Int×List Ri:=
 if aliveB t g.lives v=true then erGo (er0 g v t) (ridesF g) else (List.replicate g.lives.length 1099511627776,List.replicate g.lives.length (0,0,0,0,0,0))
theorem erF_len (g:Gr) (v t:Int):(erF g v t).1.length=g.lives.length /\ (erF g v t).2.length=g.lives.length:=by
 unfold erF
 split
 · have:=erGo_len (ridesF g) (er0 g v t);simpa [er0] using this
 · simp
theorem rep_getD (n:Nat) (x:Int) (v:Nat) (hv:v<n):(List.replicate n x).getD v 0=x:=by simp [List.getD_eq_getElem?_getD,hv]
structure ErOk (g:Gr) (v0 t0:Int) (s:List Int×List Ri):Prop where
 len:s.1.length=g.lives.length
 lenL:s.2.length=g.lives.length
 at0:s.1.getD v0.toNat 0=t0
 is:∀v:Nat,v<g.lives.length -> s.1.getD v 0=1099511627776 \/ Rch g v0 t0 (v:Int) (s.1.getD v 0)
 way:∀v:Nat,v<g.lives.length -> s.1.getD v 0≠1099511627776 -> (v:Int)≠v0 -> RideOk g (s.2.getD v (0,0,0,0,0,0)) /\ (s.2.getD v (0,0,0,0,0,0)).2.2.2.1=(v:Int) /\ (s.2.getD v (0,0,0,0,0,0)).2.2.2.2.1=s.1.getD v 0 /\ s.1.getD (s.2.getD v (0,0,0,0,0,0)).2.2.1.toNat 0 <= (s.2.getD v (0,0,0,0,0,0)).2.1
theorem er0_ok {g:Gr} (R:Right g) {v t:Int} (h0:0 <= v) (ha:aliveB t g.lives v=true):ErOk g v t (er0 g v t):=by
 have hv:=alive_hor R ha
 have hg:∀x:Nat,x<g.lives.length -> (er0 g v t).1.getD x 0=if x=v.toNat then t else 1099511627776:=fun x hx=>by
   unfold er0;simp only;rw [getD_setI _ _ _ _ (by simpa using hv.1),rep_getD _ _ _ hx]
 refine ⟨by simp [er0],by simp [er0],by rw [hg _ hv.1,if_pos rfl],fun x hx=> ?_,fun x hx h1 h2=> ?_⟩
 · rw [hg _ hx]
   split
   · rename_i e;right;rw [e,show ((v.toNat:Nat):Int)=v by omega];exact .base ha
   · exact .inl rfl
 · rw [hg _ hx] at h1
   rw [if_neg (by omega)] at h1
   exact absurd rfl h1
theorem ErOk.step {g:Gr} (R:Right g) {v0 t0:Int} {s:List Int×List Ri} (h0:0 <= v0) (h:ErOk g v0 t0 s) {r:Ri} (hr:RideOk g r):ErOk g v0 t0 (erT s.1 r,erL s.1 s.2 r):=by
 by_cases hc:s.1.getD r.2.2.1.toNat 0 <= r.2.1 /\ r.2.2.2.2.1<s.1.getD r.2.2.2.1.toNat 0
 · obtain ⟨c1,c2⟩:=hc
   have eT:erT s.1 r=s.1.set r.2.2.2.1.toNat r.2.2.2.2.1:=by unfold erT;rw [if_pos ⟨c1,c2⟩]
   have eL:erL s.1 s.2 r=s.2.set r.2.2.2.1.toNat r:=by unfold erL;rw [if_pos ⟨c1,c2⟩]
   rw [eT,eL]
   have hb:r.2.2.2.1.toNat<s.1.length:=by rw [h.len];have:=hr.b0;omega
   have hbL:r.2.2.2.1.toNat<s.2.length:=by rw [h.lenL];have:=hr.b0;omega
   have ha:r.2.2.1.toNat<g.lives.length:=by have:=hr.a0;omega
   have hor:=hr.hor
   have hh:=R.hor
   have hlt:=hr.lt
   have hR:Rch g v0 t0 r.2.2.1 r.2.1:=by
     rcases h.is _ ha with e | e
     · omega
     · rw [show ((r.2.2.1.toNat:Nat):Int)=r.2.2.1 by have:=hr.a0;omega] at e
       exact e.waits R c1 hr.alA
   have hR2:=hr.go hR
   have hb0:=hr.b0
   have hge:∀x:Nat,x<g.lives.length -> t0 <= s.1.getD x 0:=fun x hx=>by
     rcases h.is x hx with e | e
     · rw [e];have:=(hR.le R);have:=(hR.place R h0).2.2;omega
     · exact e.le R
   refine ⟨by rw [List.length_set];exact h.len,by rw [List.length_set];exact h.lenL,?_,fun x hx=> ?_,fun x hx k1 k2=> ?_⟩
   · simp only
     rw [getD_setI _ _ _ _ hb]
     split
     · rename_i e
       have h1:=h.at0
       rw [e] at h1
       have h2:=hR2.le R
       omega
     · exact h.at0
   · simp only
     rw [getD_setI _ _ _ _ hb]
     split
     · rename_i e;right;rw [e,show ((r.2.2.2.1.toNat:Nat):Int)=r.2.2.2.1 by omega];exact hR2
     · exact h.is x hx
   · simp only at k1 ⊢
     have hgt:∀y:Nat,(s.1.set r.2.2.2.1.toNat r.2.2.2.2.1).getD y 0 <= s.1.getD y 0:=fun y=>by
       rw [getD_setI _ _ _ _ hb]
       split
       · rename_i e;rw [e];omega
       · omega
     by_cases e:x=r.2.2.2.1.toNat
     · have eD:(s.2.set r.2.2.2.1.toNat r).getD x (0,0,0,0,0,0)=r:=by rw [getD_setR _ _ _ _ _ hbL,if_pos e]
       have eX:(s.1.set r.2.2.2.1.toNat r.2.2.2.2.1).getD x 0=r.2.2.2.2.1:=by rw [getD_setI _ _ _ _ hb,if_pos e]
       rw [eD,eX]
       exact ⟨hr,by omega,rfl,Int.le_trans (hgt _) c1⟩
     · have eD:(s.2.set r.2.2.2.1.toNat r).getD x (0,0,0,0,0,0)=s.2.getD x (0,0,0,0,0,0):=by rw [getD_setR _ _ _ _ _ hbL,if_neg e]
       have eX:(s.1.set r.2.2.2.1.toNat r.2.2.2.2.1).getD x 0=s.1.getD x 0:=by rw [getD_setI _ _ _ _ hb,if_neg e]
       rw [eX] at k1
       rw [eD,eX]
       obtain ⟨q1,q2,q3,q4⟩:=h.way x hx k1 k2
       exact ⟨q1,q2,q3,Int.le_trans (hgt _) q4⟩
 · have eT:erT s.1 r=s.1:=by unfold erT;rw [if_neg hc]
   have eL:erL s.1 s.2 r=s.2:=by unfold erL;rw [if_neg hc]
   rw [eT,eL];exact h
theorem ErOk.go {g:Gr} (R:Right g) {v0 t0:Int} (h0:0 <= v0):∀(l:List Ri) (s:List Int×List Ri),(∀r∈l,RideOk g r) -> ErOk g v0 t0 s -> ErOk g v0 t0 (erGo s l)
 | [],s,_,h=>h
 | r::l,s,hl,h=>by
   rw [erGo_cons]
   exact ErOk.go R h0 l _ (fun x hx=>hl x (by simp [hx])) (h.step R h0 (hl r (by simp)))
theorem er_least {g:Gr} (R:Right g) {v0 t0 v t:Int} (h0:0 <= v0) (h:Rch g v0 t0 v t):(erGo (er0 g v0 t0) (ridesF g)).1.getD v.toNat 0 <= t:=by
 induction h with
 | base ha=>
   have:=(er0_ok R h0 ha).at0
   have:=erGo_le (ridesF g) v0.toNat (er0 g v0 t0)
   omega
 | wait _ _ ih=>omega
 | @ride t q i hi h hq ih=>
   have hp:=h.place R h0
   obtain ⟨A,B,hAB⟩:=List.append_of_mem (ride_mem R hi hp.2.2.1 hq)
   have hs:(ridesF g).Pairwise fun a b=>a.2.1 <= b.2.1:=ridesTo_sorted g _
   have hok:∀r∈ridesF g,RideOk g r:=fun r hr=>mem_rides R hr
   rw [hAB] at hs hok
   rw [hAB,erGo_app] at ih ⊢
   have hs2:=(List.pairwise_append.1 hs).2.1
   have h1:=erGo_late t _ _ _ (fun r hr=>by
     refine ⟨?_,(hok r (by simp only [List.mem_append];exact .inr hr)).lt⟩
     rcases List.mem_cons.1 hr with rfl | hr
     · exact Int.le_refl _
     · exact (List.pairwise_cons.1 hs2).1 r hr) ih
   rw [erGo_cons]
   have h2:=erGo_le B g.edges[i].2.1.toNat (erT (erGo (er0 g v0 t0) A).1 ((i:Int),t,g.edges[i].1,g.edges[i].2.1,q.1,q.2),erL (erGo (er0 g v0 t0) A).1 (erGo (er0 g v0 t0) A).2 ((i:Int),t,g.edges[i].1,g.edges[i].2.1,q.1,q.2))
   refine Int.le_trans h2 ?_
   simp only [erT]
   have hb:g.edges[i].2.1.toNat<(erGo (er0 g v0 t0) A).1.length:=by
     rw [(erGo_len A _).1]
     have:=(R.ends _ (List.getElem_mem hi)).2.1
     simp [er0];omega
   split
   · rw [getD_setI _ _ _ _ hb,if_pos rfl];omega
   · rename_i hn
     have:=fun k=>hn ⟨h1,k⟩
     omega
theorem erF_ok {g:Gr} (R:Right g) {v t:Int} (h0:0 <= v) (ha:aliveB t g.lives v=true):ErOk g v t (erF g v t) /\ ∀x y,Rch g v t x y -> (erF g v t).1.getD x.toNat 0 <= y:=by
 have e:erF g v t=erGo (er0 g v t) (ridesF g):=by unfold erF;rw [if_pos ha]
 rw [e]
 exact ⟨ErOk.go R h0 _ _ (fun r hr=>mem_rides R hr) (er0_ok R h0 ha),fun x y h=>er_least R h0 h⟩
theorem erF_away {g:Gr} {v t:Int} (ha:¬aliveB t g.lives v=true):(erF g v t).1=List.replicate g.lives.length 1099511627776:=by unfold erF;rw [if_neg ha]
def ltT (T:List Int) (r:Ri):List Int:=if r.2.2.2.2.1 <= T.getD r.2.2.2.1.toNat 0 then T.set r.2.2.1.toNat (max (T.getD r.2.2.1.toNat 0) r.2.1) else T
def lt0 (g:Gr) (q d:Int):List Int:=(List.replicate g.lives.length (-1:Int)).set q.toNat d
def edB (g:Gr) (h:Hp):Int:=(g.edges.getD h.1.toNat (0,0,[])).2.1
structure WayTo (g:Gr) (T:List Int) (v q:Int) (l:List Hp):Prop where
 go:∀c,∃c',goF g (some (v,T.getD v.toNat 0,c)) l=some (q,T.getD q.toNat 0,c')
 up:∀h∈l,T.getD v.toNat 0<T.getD (edB g h).toNat 0
 srt:l.Pairwise fun a b=>T.getD (edB g a).toNat 0<T.getD (edB g b).toNat 0
 len:(l.length:Int)+T.getD v.toNat 0 <= T.getD q.toNat 0
 rng:∀h∈l,(0 <= h.1 /\ h.1<g.edges.length) /\ 0 <= edB g h
theorem wayTo_nil (g:Gr) (T:List Int) (q:Int):WayTo g T q q []:=⟨fun c=>⟨c,rfl⟩,fun h hh=>by simp at hh,List.Pairwise.nil,by simp,fun h hh=>by simp at hh⟩
theorem WayTo.cons {g:Gr} {T:List Int} {v q:Int} {l:List Hp} (W:WayTo g T v q l) {r:Ri} (hr:RideOk g r) (hv:r.2.2.2.1=v) (ha:r.2.2.2.2.1=T.getD v.toNat 0) (hd:T.getD r.2.2.1.toNat 0 <= r.2.1):WayTo g T r.2.2.1 q ((r.1,r.2.1)::l) /\ T.getD r.2.2.1.toNat 0<T.getD v.toNat 0:=by
 have hlt:=hr.lt
 have hb:=hr.b0
 have eB:edB g (r.1,r.2.1)=v:=by unfold edB;rw [hr.edB,hv]
 refine ⟨⟨fun c=> ?_,fun h hh=> ?_,?_,?_,fun h hh=> ?_⟩,by omega⟩
 · have h1:=hr.hop (c:=c) hd
   rw [goF_cons,Option.bind_some,h1,hv,ha]
   exact W.go _
 · rcases List.mem_cons.1 hh with rfl | hh
   · rw [eB];omega
   · have:=W.up h hh;omega
 · rw [List.pairwise_cons]
   refine ⟨fun b hb=> ?_,W.srt⟩
   rw [eB];exact W.up b hb
 · have:=W.len
   rw [List.length_cons];omega
 · rcases List.mem_cons.1 hh with rfl | hh
   · exact ⟨hr.e0,by rw [eB];omega⟩
   · exact W.rng h hh
end Go.Proofs.YtfphigmeppdocaaGreat.Q
