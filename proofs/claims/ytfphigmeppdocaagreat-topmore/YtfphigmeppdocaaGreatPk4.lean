/-
  Several texts in one.
-/
import Derived.Orders
import Derived.Conc.AppendWalk
import Derived.Conc.BesideWords
import Derived.Test.YtfphigmeppdocaaGreatPk3
namespace Go.Proofs.YtfphigmeppdocaaGreat
namespace Crw
open Go.Conc Go.ConcN Go.RowKit Go.Conc.Lib Go.ConcR.Gen Go.ConcN.Gen
open Go.ConcR (KK wgBlock WgAt stA smA rd wr mk Payload DC0)
def bw:Frame:=baseD 75
noncomputable def bot:Frame:={(default:Frame) with fn:=Tryz.prog.funcs.size,defers:=[],mode:= .panicking [goexitEntry] }
noncomputable def bodyw:Code:=Tryz.f75.body.getD .skip
noncomputable def opsw:Array Oper:=match bodyw with
 | .seq _ (.region _ ops _)=>ops
 | _=>#[]
noncomputable def callw (N:Nat):Deferred:={target:= .fn (.func 75) #[.pointer (some ⟨N+5,0,none⟩),.pointer (some ⟨N,0,none⟩),.pointer (some ⟨N+1,0,none⟩),.pointer (some ⟨N+6,0,none⟩),.pointer (some ⟨N+2,0,none⟩),.pointer (some ⟨N+4,0,none⟩)],args:=#[] }
theorem bornw (N:Nat) (w:World):stepG Tryz.prog false (born Tryz.prog (callw N)) w=
   .go (G (bw.at ⟨#[.pointer (some ⟨N+5,0,none⟩),.pointer (some ⟨N,0,none⟩),.pointer (some ⟨N+1,0,none⟩),.pointer (some ⟨N+6,0,none⟩),.pointer (some ⟨N+2,0,none⟩),.pointer (some ⟨N+4,0,none⟩),undef,undef,undef,undef,undef,undef,undef,undef],[]⟩ [.code bodyw]) [bot]) w #[]:=by
 simp [born,callw,stepG,unwind,callDeferred,invoke,callFunc,Tryz.func75,Tryz.f75,seen,GStep.after,G,Frame.enter,Frame.at,bw,baseD,bot,bodyw]
theorem quitw (T:Array Value):QuitsD Tryz.prog 2 0 (G {bw.at ⟨T,[]⟩ [] with mode:= .returning } [bot]):=by
 refine QuitsD.ctl (g':=G bot []) rfl (fun w=> ?_) ?_
 · simp [G,stepG,unwind,doReturn,results,Frame.at,bw,baseD,bot,Tryz.func75,Tryz.f75,seen,GStep.after,goexitEntry]
 refine QuitsD.ctl (g':={G bot [] with status:= .finished }) rfl (fun w=> ?_) ⟨rfl,rfl⟩
 simp [G,stepG,unwind,bot,goexitEntry,Frame.catches]
 rfl
theorem loudw:(Tryz.prog.funcs[bw.fn]?).any (·.norace)=false:=by kernel_rfl
section
variable {a:Act} {w:World} {ops:Array Oper} {k:Nat} {rest:List Nat} {o:Oper} {kk:List Item}
theorem loadw {ty:TypeId} {x:Operand} (ho:ops[k]? =some o) (hg:o.guard=none) (hop:o.op= .load ty x) (hty:∀w,(isAgg ty).run Tryz.prog w= .ok false w) {ad:Addr} {v:Value} (hx:a.eval x= .pointer (some ad)) (hc:w.cell? ad=some v):
   stepG Tryz.prog false (G (bw.at a (.inRegion ops (k::rest)::kk)) [bot]) w= .go (G (bw.at (a.put o.dst v) (.inRegion ops rest::kk)) [bot]) w #[⟨.cell ad,false,false⟩]:=by
 have hr:(execOp a.eval o).run Tryz.prog w= .ok (.value v) w:=by
   unfold execOp
   simp only [hop,hx]
   simp [go_sem,hty,hc]
 have he:(execOp a.eval o).events Tryz.prog w #[]=#[⟨.cell ad,false,false⟩]:=by
   unfold execOp
   simp only [hop,hx]
   simp [go_sem,hty,hc]
 rw [stepG_value ho (by simp [Region.wanted,hg]) (by decide) hr]
 unfold listed
 rw [he,seen_eq loudw (by simp)]
end
structure Kw (N:Nat) (news paths:Value) (w:World):Prop where
 cN:w.cell? ⟨N,0,none⟩=some news
 cP:w.cell? ⟨N+1,0,none⟩=some paths
 cW:w.cell? ⟨N+2,0,none⟩=some (.int .i64 1)
 cB:w.cell? ⟨N+4,0,none⟩=some (.slice (some ⟨N+3,0,none⟩) 1 1)
 cI:w.cell? ⟨N+6,0,none⟩=some (.int .i64 0)
 live:WgLive lk.tWg (N+5) w
 pN:PayAt N 1 w
def Rn (N:Nat) (w w₁:World):Prop:=Stay (N+5) w w₁ /\ (WgLive lk.tWg (N+5) w -> WgLive lk.tWg (N+5) w₁)
def Dn (SB:Nat -> Prop) (N:Nat) (w w' :World) (es:Array Event):Prop:=WEff (N+5) w w' /\ w'.heap.size=w.heap.size /\ (∀b,b≠N+3 -> w'.heap[b]? =w.heap[b]?) /\ ∀e∈es,EvO SB (N+5) w'.heap.size e
def Dp (SB:Nat -> Prop) (N:Nat) (w w' :World) (es:Array Event):Prop:=(∃d,w' =w.at d) /\ ∀e∈es,EvO SB (N+5) w'.heap.size e
theorem Rn.refl (N:Nat) (w:World):Rn N w w:=⟨⟨fun _ _=>rfl,rfl⟩,id⟩
theorem Rn.tr (N:Nat):∀a b c,Rn N a b -> Rn N b c -> Rn N a c:=fun _ _ _ h h' =>⟨⟨fun b hb=>(h'.1.same b hb).trans (h.1.same b hb),h'.1.size.trans h.1.size⟩,h'.2∘h.2⟩
theorem weff_at (Wg:Nat) (w:World) (d:Nat):WEff Wg w (w.at d):=⟨⟨rfl,rfl,rfl⟩,Nat.le_refl _,rfl⟩
theorem Dp.dn {SB:Nat -> Prop} {N:Nat} {w w' :World} {es:Array Event} (h:Dp SB N w w' es):Dn SB N w w' es:=by
 obtain ⟨⟨d,rfl⟩,h2⟩:=h
 exact ⟨weff_at _ w d,rfl,fun _ _=>rfl,h2⟩
section
variable {SB:Nat -> Prop} {N:Nat} {news paths:Value} {w w₁:World}
theorem Kw.of (h:Kw N news paths w) (hl:∀b,N <= b -> b <= N+6 -> b≠N+5 -> b≠N+3 -> w₁.heap[b]? =w.heap[b]?) (hv:WgLive lk.tWg (N+5) w₁):Kw N news paths w₁:=by
 have hc:∀b,N <= b -> b <= N+6 -> b≠N+5 -> b≠N+3 -> ∀o,w₁.cell? ⟨b,o,none⟩=w.cell? ⟨b,o,none⟩:=fun b h0 h1 h2 h3 o=>cell_of_block (hl b h0 h1 h2 h3) o
 refine ⟨(hc _ (by omega) (by omega) (by omega) (by omega) _).trans h.cN,(hc _ (by omega) (by omega) (by omega) (by omega) _).trans h.cP,(hc _ (by omega) (by omega) (by omega) (by omega) _).trans h.cW,(hc _ (by omega) (by omega) (by omega) (by omega) _).trans h.cB,(hc _ (by omega) (by omega) (by omega) (by omega) _).trans h.cI,hv,?_⟩
 obtain ⟨cs,h1,h2⟩:=h.pN
 exact ⟨cs,(hl N (by omega) (by omega) (by omega) (by omega)).trans h1,h2⟩
theorem Kw.rely (h:Kw N news paths w) (r:Rn N w w₁):Kw N news paths w₁:=h.of (fun b _ _ h1 _=>r.1.same b h1) (r.2 h.live)
theorem lt_of_cell {w:World} {a:Addr} {v:Value} (h:w.cell? a=some v):a.block<w.heap.size:=by
 rcases Nat.lt_or_ge a.block w.heap.size with h' | h'
 · exact h'
 · simp [World.cell?,Array.getElem?_eq_none h'] at h
theorem dp_read (hSB:∀b,SB b -> b<N \/ b=N+5) {ad:Addr} {v:Value} (hc:w.cell? ad=some v) (h:N <= ad.block /\ ad.block≠N+5):Dp SB N w w #[⟨.cell ad,false,false⟩]:=by
 refine ⟨⟨w.drawn,rfl⟩,fun e he=> ?_⟩
 rw [Array.mem_singleton] at he
 subst he
 refine ⟨fun x hx=> ?_,by simp,by simp,by simp,fun x hx=> ?_⟩<;>simp only [Go.ConcR.ofEvent_cell,MemAct.touch?,Option.some.injEq] at hx<;>subst hx
 · rintro ⟨a1,e1,e2⟩
   cases e1
   have:=hSB _ e2
   omega
 · exact lt_of_cell hc
theorem dp_nil:Dp SB N w w #[]:=⟨⟨w.drawn,rfl⟩,by simp⟩
end
def valw (N:Nat) (news paths:Value):Nat -> Value
 | 0=> .slice (some ⟨N+3,0,none⟩) 1 1
 | 1=> .int .i64 0
 | 2=>news
 | 3=>paths
 | 4=> .int .i64 0
 | 5=> .int .i64 1
 | _=>undef
def srcw (N:Nat):Nat -> Nat
 | 0=>N+4
 | 1=>N+6
 | 2=>N
 | 3=>N+1
 | 4=>N+6
 | 5=>N+2
 | _=>0
def capw:Nat -> Nat
 | 0=>5
 | 1=>3
 | 2=>1
 | 3=>2
 | 4=>3
 | 5=>4
 | _=>0
def tyw:Nat -> TypeId
 | 0=>104
 | 1=>3
 | 2=>99
 | 3=>101
 | 4=>3
 | 5=>3
 | _=>0
theorem ldw (k:Nat) (hk:k<6):∃o,opsw[k]? =some o /\ o.guard=none /\ o.op= .load (tyw k) (.tmp (capw k)) /\ o.dst=some (6+k) /\ o.after=#[]:=by
 have h:k=0 \/ k=1 \/ k=2 \/ k=3 \/ k=4 \/ k=5:=by omega
 rcases h with rfl | rfl | rfl | rfl | rfl | rfl<;>exact ⟨_,rfl,rfl,rfl,rfl,rfl⟩
theorem aggw (k:Nat) (hk:k<6):∀w,(isAgg (tyw k)).run Tryz.prog w= .ok false w:=by
 have h:k=0 \/ k=1 \/ k=2 \/ k=3 \/ k=4 \/ k=5:=by omega
 rcases h with rfl | rfl | rfl | rfl | rfl | rfl
 · exact Tryz.isAgg104
 · exact Tryz.isAgg3
 · exact Tryz.isAgg99
 · exact Tryz.isAgg101
 · exact Tryz.isAgg3
 · exact Tryz.isAgg3
theorem op6w:∃o,opsw[6]? =some o /\ o.guard=none /\ o.op= .call {callee:= .value (.func 77),args:=#[.tmp 8,.tmp 9,.tmp 10,.tmp 11],argTypes:=#[99,101,3,3] } /\ o.dst=some 12 /\
   o.after=#[⟨2,.data⟩,⟨3,.data⟩,⟨4,.data⟩,⟨5,.data⟩]:=⟨_,rfl,rfl,rfl,rfl,rfl⟩
theorem op7w:∃o,opsw[7]? =some o /\ o.guard=none /\ o.op= .indexAddr 104 (.tmp 6) (.tmp 7) /\ o.dst=some 13 /\
   o.after=#[⟨0,.data⟩,⟨1,.data⟩,⟨0,.phase⟩,⟨1,.phase⟩,⟨2,.phase⟩,⟨3,.phase⟩,⟨4,.phase⟩,⟨5,.phase⟩,⟨6,.phase⟩]:=⟨_,rfl,rfl,rfl,rfl,rfl⟩
theorem op8w:∃o,opsw[8]? =some o /\ o.guard=none /\ o.op= .store 99 (.tmp 13) (.tmp 12) /\ o.dst=none /\
   o.after=#[⟨7,.data⟩,⟨6,.data⟩,⟨6,.chain⟩,⟨0,.phase⟩,⟨1,.phase⟩,⟨2,.phase⟩,⟨3,.phase⟩,⟨4,.phase⟩,⟨5,.phase⟩,⟨6,.phase⟩]:=⟨_,rfl,rfl,rfl,rfl,rfl⟩
theorem sizew:opsw.size=9:=rfl
def lis (l0 l1 l2 l3 l4 l5 l6 l7 l8:Bool):Array Bool:=#[l0,l1,l2,l3,l4,l5,l6,l7,l8]
theorem readyw {k:Nat} {l0 l1 l2 l3 l4 l5 l6 l7 l8:Bool}:k∈Region.ready .any opsw (lis l0 l1 l2 l3 l4 l5 l6 l7 l8)↔
   (k=0 /\ l0=false) \/ (k=1 /\ l1=false) \/ (k=2 /\ l2=false) \/ (k=3 /\ l3=false) \/ (k=4 /\ l4=false) \/ (k=5 /\ l5=false) \/ (k=6 /\ l6=false /\ l2=true /\ l3=true /\ l4=true /\ l5=true) \/
   (k=7 /\ l7=false /\ l0=true /\ l1=true /\ l2=true /\ l3=true /\ l4=true /\ l5=true /\ l6=true) \/ (k=8 /\ l8=false /\ l0=true /\ l1=true /\ l2=true /\ l3=true /\ l4=true /\ l5=true /\ l6=true /\ l7=true):=by
 rw [mem_ready]
 constructor
 · rintro ⟨h0,o,ho,ha⟩
   have hk:k<9:=by have:=(Array.getElem?_eq_some_iff.1 ho).1;rw [sizew] at this;exact this
   have hc:k<6 \/ k=6 \/ k=7 \/ k=8:=by omega
   rcases hc with hc | rfl | rfl | rfl
   · have h:k=0 \/ k=1 \/ k=2 \/ k=3 \/ k=4 \/ k=5:=by omega
     rcases h with rfl | rfl | rfl | rfl | rfl | rfl<;>simp [lis] at h0<;>simp [h0]
   · obtain ⟨o',ho',_,_,_,hx⟩:=op6w
     rw [ho] at ho';cases ho'
     rw [hx] at ha
     simp [lis,Region.binds] at h0 ha
     simp [h0,ha]
   · obtain ⟨o',ho',_,_,_,hx⟩:=op7w
     rw [ho] at ho';cases ho'
     rw [hx] at ha
     simp [lis,Region.binds] at h0 ha
     simp [h0,ha]
   · obtain ⟨o',ho',_,_,_,hx⟩:=op8w
     rw [ho] at ho';cases ho'
     rw [hx] at ha
     simp [lis,Region.binds] at h0 ha
     simp [h0,ha]
 · have ld:∀k,k<6 -> (lis l0 l1 l2 l3 l4 l5 l6 l7 l8).getD k true=false -> (lis l0 l1 l2 l3 l4 l5 l6 l7 l8).getD k true=false /\ ∃o,opsw[k]? =some o /\ ∀e∈o.after,Region.binds .any e=true -> (lis l0 l1 l2 l3 l4 l5 l6 l7 l8).getD e.on false=true:=fun k hk h0=>
     let ⟨o,ho,_,_,_,hx⟩:=ldw k hk
     ⟨h0,o,ho,fun e he=>by rw [hx] at he;simp at he⟩
   rintro (⟨rfl,h⟩ | ⟨rfl,h⟩ | ⟨rfl,h⟩ | ⟨rfl,h⟩ | ⟨rfl,h⟩ | ⟨rfl,h⟩ | ⟨rfl,h⟩ | ⟨rfl,h⟩ | ⟨rfl,h⟩)
   · exact ld 0 (by omega) (by simp [lis,h])
   · exact ld 1 (by omega) (by simp [lis,h])
   · exact ld 2 (by omega) (by simp [lis,h])
   · exact ld 3 (by omega) (by simp [lis,h])
   · exact ld 4 (by omega) (by simp [lis,h])
   · exact ld 5 (by omega) (by simp [lis,h])
   · obtain ⟨o',ho',_,_,_,hx⟩:=op6w
     refine ⟨by simp [lis,h],o',ho',fun e he _=> ?_⟩
     rw [hx] at he
     simp at he
     rcases he with rfl | rfl | rfl | rfl<;>simp [lis,h]
   · obtain ⟨o',ho',_,_,_,hx⟩:=op7w
     refine ⟨by simp [lis,h],o',ho',fun e he _=> ?_⟩
     rw [hx] at he
     simp at he
     rcases he with rfl | rfl | rfl | rfl | rfl | rfl | rfl | rfl | rfl<;>simp [lis,h]
   · obtain ⟨o',ho',_,_,_,hx⟩:=op8w
     refine ⟨by simp [lis,h],o',ho',fun e he _=> ?_⟩
     rw [hx] at he
     simp at he
     rcases he with rfl | rfl | rfl | rfl | rfl | rfl | rfl | rfl | rfl | rfl<;>simp [lis,h]
theorem nextw (fuel t:Nat) (ls:Array Bool) (hne:Region.ready .any opsw ls≠[]):∃k t',k∈Region.ready .any opsw ls /\ Region.linearise.go .any opsw (fuel+1) t ls []=k::Region.linearise.go .any opsw fuel t' (ls.setIfInBounds k true) []:=by
 have hgo:Region.linearise.go .any opsw (fuel+1) t ls []=match (Region.ready .any opsw ls)[t%(Region.ready .any opsw ls).length]? with
     | some i=>Region.linearise.go .any opsw fuel (t/(Region.ready .any opsw ls).length) (ls.setIfInBounds i true) [i]
     | none=>[].reverse:=rfl
 cases hi:(Region.ready .any opsw ls)[t%(Region.ready .any opsw ls).length]? with
 | none=>
   exfalso
   have hlt:t%(Region.ready .any opsw ls).length<(Region.ready .any opsw ls).length:=Nat.mod_lt _ (List.length_pos_iff.2 hne)
   rw [List.getElem?_eq_getElem hlt] at hi
   cases hi
 | some k=>
   refine ⟨k,t/(Region.ready .any opsw ls).length,List.mem_of_getElem? hi,?_⟩
   rw [hgo,hi]
   simp only
   rw [linearise_go_acc,List.reverse_singleton,List.singleton_append]
structure Slw (N:Nat) (news paths:Value) (ls:Array Bool) (T:Array Value):Prop where
 size:T.size=14
 t0:T[0]? =some (.pointer (some ⟨N+5,0,none⟩))
 cap:∀k,k<6 -> T[capw k]? =some (.pointer (some ⟨srcw N k,0,none⟩))
 got:∀k,k<6 -> ls.getD k false=true -> T[6+k]? =some (valw N news paths k)
theorem capw_lt (k:Nat):capw k<6:=by
 unfold capw
 split<;>omega
theorem Slw.put {N:Nat} {news paths:Value} {ls ls' :Array Bool} {T:Array Value} (h:Slw N news paths ls T) {d:Nat} {v:Value} (hd:6 <= d) (hl:∀k,k<6 -> ls'.getD k false=true -> (6+k=d /\ v=valw N news paths k) \/ (6+k≠d /\ ls.getD k false=true)) (hdT:d<14):Slw N news paths ls' (T.setIfInBounds d v):=by
 refine ⟨by simp [h.size],by rw [Array.getElem?_setIfInBounds_ne (by omega)];exact h.t0,fun k hk=>by rw [Array.getElem?_setIfInBounds_ne (by have:=capw_lt k;omega)];exact h.cap k hk,fun k hk hkl=> ?_⟩
 rcases hl k hk hkl with ⟨rfl,rfl⟩ | ⟨h1,h2⟩
 · rw [Array.getElem?_setIfInBounds_self_of_lt (by rw [h.size];omega)]
 · rw [Array.getElem?_setIfInBounds_ne (Ne.symm h1)]
   exact h.got k hk h2
theorem eval_tmp {T:Array Value} {ds:List Deferred} {t:Nat} {v:Value} (h:T[t]? =some v):(⟨T,ds⟩:Act).eval (.tmp t)=v:=by
 simp [Act.eval,h]
section
variable {SB:Nat -> Prop} {N:Nat} {news paths:Value} {w:World}
theorem Kw.src (h:Kw N news paths w) (k:Nat) (hk:k<6):w.cell? ⟨srcw N k,0,none⟩=some (valw N news paths k):=by
 have hc:k=0 \/ k=1 \/ k=2 \/ k=3 \/ k=4 \/ k=5:=by omega
 rcases hc with rfl | rfl | rfl | rfl | rfl | rfl
 · exact h.cB
 · exact h.cI
 · exact h.cN
 · exact h.cP
 · exact h.cI
 · exact h.cW
theorem srcw_or (k:Nat) (hk:k<6):N <= srcw N k /\ srcw N k≠N+5:=by
 have hc:k=0 \/ k=1 \/ k=2 \/ k=3 \/ k=4 \/ k=5:=by omega
 rcases hc with rfl | rfl | rfl | rfl | rfl | rfl<;>simp [srcw]<;>omega
theorem stepLd (hSB:∀b,SB b -> b<N \/ b=N+5) (h:Kw N news paths w) {ls:Array Bool} {T:Array Value} {ds:List Deferred} (hs:Slw N news paths ls T) {k:Nat} (hk:k<6) (rest:List Nat):
   stepG Tryz.prog false (G (bw.at ⟨T,ds⟩ (.inRegion opsw (k::rest)::[])) [bot]) w= .go (G (bw.at ⟨T.setIfInBounds (6+k) (valw N news paths k),ds⟩ (.inRegion opsw rest::[])) [bot]) w #[⟨.cell ⟨srcw N k,0,none⟩,false,false⟩] /\
   Dp SB N w w #[⟨.cell ⟨srcw N k,0,none⟩,false,false⟩]:=by
 obtain ⟨o,ho,hg,hop,hd,_⟩:=ldw k hk
 refine ⟨?_,dp_read hSB (h.src k hk) (srcw_or k hk)⟩
 rw [loadw ho hg hop (aggw k hk) (eval_tmp (hs.cap k hk)) (h.src k hk)]
 simp [Act.put,hd]
def argsw (news paths:Value):Array Value:=#[news,paths,.int .i64 0,.int .i64 1]
noncomputable def dsw (N:Nat):List Deferred:=[dcall 76 #[.pointer (some ⟨N+5,0,none⟩)]]
def AtCall (N:Nat) (news paths:Value) (g:Goroutine) (w:World):Prop:=
 Kw N news paths w /\ ∃T l0 l1 fuel t,fuel+l0.toNat+l1.toNat=4 /\ Slw N news paths (lis l0 l1 true true true true false false false) T /\
   g=G (bw.at ⟨T,dsw N⟩ (.inRegion opsw (6::Region.linearise.go .any opsw fuel t (lis l0 l1 true true true true true false false) [])::[])) [bot]
theorem regPre (hSB:∀b,SB b -> b<N \/ b=N+5):∀(fuel t:Nat) (l0 l1 l2 l3 l4 l5:Bool) (T:Array Value) (w:World),fuel+l0.toNat+l1.toNat+l2.toNat+l3.toNat+l4.toNat+l5.toNat=9 -> Kw N news paths w ->
   Slw N news paths (lis l0 l1 l2 l3 l4 l5 false false false) T ->
   Goes Tryz.prog false (Rn N) (Dp SB N) (AtCall N news paths) fuel (G (bw.at ⟨T,dsw N⟩ (.inRegion opsw (Region.linearise.go .any opsw fuel t (lis l0 l1 l2 l3 l4 l5 false false false) [])::[])) [bot]) w:=by
 intro fuel
 induction fuel with
 | zero=>
   intro t l0 l1 l2 l3 l4 l5 T w hf
   exfalso
   cases l0<;>cases l1<;>cases l2<;>cases l3<;>cases l4<;>cases l5<;>simp at hf
 | succ fuel ih=>
   intro t l0 l1 l2 l3 l4 l5 T w hf hk hs
   have hne:Region.ready .any opsw (lis l0 l1 l2 l3 l4 l5 false false false)≠[]:=by
     intro h0
     have hno:∀k,k∉Region.ready .any opsw (lis l0 l1 l2 l3 l4 l5 false false false):=by intro k;rw [h0];simp
     have h6:=hno 6
     have e0:=hno 0;have e1:=hno 1;have e2:=hno 2;have e3:=hno 3;have e4:=hno 4;have e5:=hno 5
     rw [readyw] at h6 e0 e1 e2 e3 e4 e5
     simp at h6 e0 e1 e2 e3 e4 e5
     exact absurd (h6 e2 e3 e4) (by simp [e5])
   obtain ⟨k,t',hkr,hgo⟩:=nextw fuel t _ hne
   rw [hgo]
   have ld:∀(k:Nat) (ls' :Array Bool),k<6 -> ls' =(lis l0 l1 l2 l3 l4 l5 false false false).setIfInBounds k true -> (∀T' w',Kw N news paths w' -> Slw N news paths ls' T' ->
       Goes Tryz.prog false (Rn N) (Dp SB N) (AtCall N news paths) fuel (G (bw.at ⟨T',dsw N⟩ (.inRegion opsw (Region.linearise.go .any opsw fuel t' ls' [])::[])) [bot]) w') ->
       Goes Tryz.prog false (Rn N) (Dp SB N) (AtCall N news paths) (fuel+1) (G (bw.at ⟨T,dsw N⟩ (.inRegion opsw (k::Region.linearise.go .any opsw fuel t' ls' [])::[])) [bot]) w:=by
     intro k ls' hk6 hls hnext
     refine Goes.step rfl fun w₁ r₁=> ?_
     have hk1:=hk.rely r₁
     obtain ⟨hst,hD⟩:=stepLd (ds:=dsw N) hSB hk1 hs hk6 (Region.linearise.go .any opsw fuel t' ls' [])
     rw [hst,goes_go]
     refine ⟨hD,hnext _ _ hk1 (hs.put (by omega) (fun k' hk' hl=> ?_) (by omega))⟩
     by_cases e:k' =k
     · subst e;exact .inl ⟨rfl,rfl⟩
     · refine .inr ⟨by omega,?_⟩
       rw [hls,getD_set_ne _ (Ne.symm e)] at hl
       exact hl
   rw [readyw] at hkr
   rcases hkr with ⟨rfl,rfl⟩ | ⟨rfl,rfl⟩ | ⟨rfl,rfl⟩ | ⟨rfl,rfl⟩ | ⟨rfl,rfl⟩ | ⟨rfl,rfl⟩ | ⟨rfl,_,rfl,rfl,rfl,rfl⟩ | ⟨_,_,_,_,_,_,_,_,h⟩ | ⟨_,_,_,_,_,_,_,_,h,_⟩
   · exact ld 0 (lis true l1 l2 l3 l4 l5 false false false) (by omega) rfl fun T' w' h1 h2=>ih t' true l1 l2 l3 l4 l5 T' w' (by simp at hf ⊢;omega) h1 h2
   · exact ld 1 (lis l0 true l2 l3 l4 l5 false false false) (by omega) rfl fun T' w' h1 h2=>ih t' l0 true l2 l3 l4 l5 T' w' (by simp at hf ⊢;omega) h1 h2
   · exact ld 2 (lis l0 l1 true l3 l4 l5 false false false) (by omega) rfl fun T' w' h1 h2=>ih t' l0 l1 true l3 l4 l5 T' w' (by simp at hf ⊢;omega) h1 h2
   · exact ld 3 (lis l0 l1 l2 true l4 l5 false false false) (by omega) rfl fun T' w' h1 h2=>ih t' l0 l1 l2 true l4 l5 T' w' (by simp at hf ⊢;omega) h1 h2
   · exact ld 4 (lis l0 l1 l2 l3 true l5 false false false) (by omega) rfl fun T' w' h1 h2=>ih t' l0 l1 l2 l3 true l5 T' w' (by simp at hf ⊢;omega) h1 h2
   · exact ld 5 (lis l0 l1 l2 l3 l4 true false false false) (by omega) rfl fun T' w' h1 h2=>ih t' l0 l1 l2 l3 l4 true T' w' (by simp at hf ⊢;omega) h1 h2
   · refine Goes.stop fun w₁ r₁=>⟨hk.rely r₁,T,l0,l1,fuel,t',by simp at hf;omega,hs,rfl⟩
   · cases h
   · cases h
end
end Crw
end Go.Proofs.YtfphigmeppdocaaGreat
namespace Go.Proofs.YtfphigmeppdocaaGreat
namespace Crw
open Go.Conc Go.ConcN Go.RowKit Go.Conc.Lib Go.ConcR.Gen Go.ConcN.Gen
open Go.ConcR (KK wgBlock WgAt stA smA rd wr mk Payload DC0)
section
variable {a:Act} {w:World} {ops:Array Oper} {k:Nat} {rest:List Nat} {o:Oper} {kk:List Item}
theorem storew {x y:Operand} (ho:ops[k]? =some o) (hg:o.guard=none) (hop:o.op= .store 99 x y) {ad:Addr} {sa:Option Addr} {sl sc:Nat} {u:Value} (hx:a.eval x= .pointer (some ad)) (hy:a.eval y= .slice sa sl sc) (hc:w.cell? ad=some u) (hz:w.frozen? ad=false):
   stepG Tryz.prog false (G (bw.at a (.inRegion ops (k::rest)::kk)) [bot]) w= .go (G (bw.at (a.put o.dst undef) (.inRegion ops rest::kk)) [bot]) (w.setCell ad (.slice sa sl sc)) #[⟨.cell ad,true,false⟩]:=by
 have hr:(execOp a.eval o).run Tryz.prog w= .ok .skip (w.setCell ad (.slice sa sl sc)):=by
   unfold execOp
   simp only [hop,hx,hy]
   simp [go_sem,stored,hc,hz]
 have he:(execOp a.eval o).events Tryz.prog w #[]=#[⟨.cell ad,true,false⟩]:=by
   unfold execOp
   simp only [hop,hx,hy]
   have hst:∀es,(store ad (.slice sa sl sc)).events Tryz.prog w es=storedEv Tryz.prog w es ad (.slice sa sl sc) .plain:=fun es=>events_store Tryz.prog w es ad (.slice sa sl sc) .plain rfl
   simp [go_sem,hst,storedEv,hc,hz]
 rw [stepG_none ho (by simp [Region.wanted,hg]) (by decide) hr]
 unfold listed
 rw [he,seen_eq loudw (by simp)]
theorem indexw {x y:Operand} (ho:ops[k]? =some o) (hg:o.guard=none) (hop:o.op= .indexAddr 104 x y) {C:Nat} (hx:a.eval x= .slice (some ⟨C,0,none⟩) 1 1) (hy:a.eval y= .int .i64 0):
   stepG Tryz.prog false (G (bw.at a (.inRegion ops (k::rest)::kk)) [bot]) w= .go (G (bw.at (a.put o.dst (.pointer (some ⟨C,0,none⟩))) (.inRegion ops rest::kk)) [bot]) w #[]:=by
 have hr:(execOp a.eval o).run Tryz.prog w= .ok (.value (.pointer (some ⟨C,0,none⟩))) w:=by
   unfold execOp
   simp only [hop,hx,hy]
   simp [go_sem]
 have he:(execOp a.eval o).events Tryz.prog w #[]=#[]:=by
   unfold execOp
   simp only [hop,hx,hy]
   simp [go_sem]
 rw [stepG_value ho (by simp [Region.wanted,hg]) (by decide) hr]
 unfold listed
 rw [he,seen_none]
end
def isSl (v:Value):Prop:=∃a l c,v= .slice a l c
section
variable {SB:Nat -> Prop} {N:Nat} {news paths v:Value} {w:World}
def AtLast (N:Nat) (news:Value) (o:Option Obj) (g:Goroutine) (w:World):Prop:=
 g.status= .running /\ w.heap[N+3]? =o /\ Has N 0 news w /\ ∃g',stepG Tryz.prog false g w= .go g' w #[] /\ ∃m,Goes Tryz.prog false (RW lk.tWg (N+5) N 1 (N+6) 0) (DWs (N+5) noP noP N 1 1) (AtR0 Tryz.prog lk.tWg (N+5) N 1 (N+6) 1 news) m g' w
theorem set_obj {w w₁:World} {a:Addr} {v:Value} (h:w₁.heap[a.block]? =w.heap[a.block]?):(w₁.setCell a v).heap[a.block]? =(w.setCell a v).heap[a.block]? :=by
 simp only [World.setCell,Array.getElem?_modify,if_true]
 rw [h]
theorem regPost (hSB:∀b,SB b -> b<N \/ b=N+5) (hv:isSl v) {wf:World} {u:Value} (hu:wf.cell? ⟨N+3,0,none⟩=some u) (hz:wf.frozen? ⟨N+3,0,none⟩=false):∀(fuel t:Nat) (l0 l1 l7 l8:Bool) (T:Array Value) (w:World),fuel+l0.toNat+l1.toNat+l7.toNat+l8.toNat=4 -> Kw N news paths w ->
   w.heap[N+3]? =(if l8 then (wf.setCell ⟨N+3,0,none⟩ v).heap[N+3]? else wf.heap[N+3]?) ->
   Slw N news paths (lis l0 l1 true true true true true l7 l8) T -> T[12]? =some v -> (l7=true -> T[13]? =some (.pointer (some ⟨N+3,0,none⟩)) /\ l0=true /\ l1=true) -> (l8=true -> l7=true) ->
   Goes Tryz.prog false (Rn N) (Dn SB N) (AtLast N news (wf.setCell ⟨N+3,0,none⟩ v).heap[N+3]?) (fuel+2) (G (bw.at ⟨T,dsw N⟩ (.inRegion opsw (Region.linearise.go .any opsw fuel t (lis l0 l1 true true true true true l7 l8) [])::[])) [bot]) w:=by
 intro fuel
 induction fuel with
 | zero=>
   intro t l0 l1 l7 l8 T w hf hk ho3 hs h12 h7 h8
   have e8:l8=true:=by cases l0<;>cases l1<;>cases l7<;>cases l8<;>simp at hf ⊢
   rw [e8,if_pos rfl] at ho3
   have e0:Region.linearise.go .any opsw 0 t (lis l0 l1 true true true true true l7 l8) []=[]:=rfl
   rw [e0]
   refine Goes.step rfl fun w₁ r₁=> ?_
   rw [stepG_region_end,goes_go]
   refine ⟨dp_nil.dn,Goes.step rfl fun w₂ r₂=> ?_⟩
   rw [stepG_end,goes_go]
   refine ⟨dp_nil.dn,Goes.stop fun w₃ r₃=> ?_⟩
   have r:Rn N w w₃:=Rn.tr _ _ _ _ (Rn.tr _ _ _ _ r₁ r₂) r₃
   have hk3:=hk.rely r
   refine ⟨rfl,(r.1.same _ (by omega)).trans ho3,hk3.cN,_,stepG_unwind_enter rfl Tryz.func76 (nm_done lk) rfl,23,?_⟩
   have hA:=@doneN _ lk Tryz.prog lk_lib noP noP (N+5) N 1 (N+6) 1 news
   simp only [body_done,doneFn,Option.getD_some] at hA
   exact hA rfl (quitw T) w₃ ⟨hk3.live,hk3.cN⟩
 | succ fuel ih=>
   intro t l0 l1 l7 l8 T w hf hk ho3 hs h12 h7 h8
   have hl8:l8=false:=by
     cases h:l8 with
     | false=>rfl
     | true=>
       have e7:=h8 h
       obtain ⟨_,e0,e1⟩:=h7 e7
       subst h e7 e0 e1
       simp at hf
   subst hl8
   simp only [Bool.false_eq_true,if_false] at ho3
   have hne:Region.ready .any opsw (lis l0 l1 true true true true true l7 false)≠[]:=by
     intro h0
     have hno:∀k,k∉Region.ready .any opsw (lis l0 l1 true true true true true l7 false):=by intro k;rw [h0];simp
     have e0:=hno 0;have e1:=hno 1;have e7:=hno 7;have e8:=hno 8
     rw [readyw] at e0 e1 e7 e8
     simp at e0 e1 e7 e8
     subst e0 e1
     simp at e7
     subst e7
     simp at e8
   obtain ⟨k,t',hkr,hgo⟩:=nextw fuel t _ hne
   rw [hgo]
   have ld:∀(k:Nat) (ls' :Array Bool),k<6 -> ls' =(lis l0 l1 true true true true true l7 false).setIfInBounds k true -> (∀T' w',Kw N news paths w' -> w'.heap[N+3]? =wf.heap[N+3]? -> Slw N news paths ls' T' -> T'[12]? =some v -> T'[13]? =T[13]? ->
       Goes Tryz.prog false (Rn N) (Dn SB N) (AtLast N news (wf.setCell ⟨N+3,0,none⟩ v).heap[N+3]?) (fuel+2) (G (bw.at ⟨T',dsw N⟩ (.inRegion opsw (Region.linearise.go .any opsw fuel t' ls' [])::[])) [bot]) w') ->
       Goes Tryz.prog false (Rn N) (Dn SB N) (AtLast N news (wf.setCell ⟨N+3,0,none⟩ v).heap[N+3]?) (fuel+1+2) (G (bw.at ⟨T,dsw N⟩ (.inRegion opsw (k::Region.linearise.go .any opsw fuel t' ls' [])::[])) [bot]) w:=by
     intro k ls' hk6 hls hnext
     refine Goes.step rfl fun w₁ r₁=> ?_
     have hk1:=hk.rely r₁
     obtain ⟨hst,hD⟩:=stepLd (ds:=dsw N) hSB hk1 hs hk6 (Region.linearise.go .any opsw fuel t' ls' [])
     rw [hst,goes_go]
     refine ⟨hD.dn,hnext _ _ hk1 ((r₁.1.same _ (by omega)).trans ho3) (hs.put (by omega) (fun k' hk' hl=> ?_) (by omega)) (by rw [Array.getElem?_setIfInBounds_ne (by omega)];exact h12) (by rw [Array.getElem?_setIfInBounds_ne (by omega)])⟩
     by_cases e:k' =k
     · subst e;exact .inl ⟨rfl,rfl⟩
     · refine .inr ⟨by omega,?_⟩
       rw [hls,getD_set_ne _ (Ne.symm e)] at hl
       exact hl
   rw [readyw] at hkr
   rcases hkr with ⟨rfl,rfl⟩ | ⟨rfl,rfl⟩ | ⟨_,h⟩ | ⟨_,h⟩ | ⟨_,h⟩ | ⟨_,h⟩ | ⟨_,h,_⟩ | ⟨rfl,rfl,rfl,rfl,_⟩ | ⟨rfl,_,rfl,rfl,_,_,_,_,_,rfl⟩
   · have e7:l7=false:=by cases h:l7 with | false=>rfl | true=>have:=(h7 h).2.1;cases this
     subst e7
     exact ld 0 (lis true l1 true true true true true false false) (by omega) rfl fun T' w' h1 h1' h2 h3 _=>ih t' true l1 false false T' w' (by simp at hf ⊢;omega) h1 (by simpa using h1') h2 h3 (by simp) (by simp)
   · have e7:l7=false:=by cases h:l7 with | false=>rfl | true=>have:=(h7 h).2.2;cases this
     subst e7
     exact ld 1 (lis l0 true true true true true true false false) (by omega) rfl fun T' w' h1 h1' h2 h3 _=>ih t' l0 true false false T' w' (by simp at hf ⊢;omega) h1 (by simpa using h1') h2 h3 (by simp) (by simp)
   · cases h
   · cases h
   · cases h
   · cases h
   · cases h
   · obtain ⟨o,ho,hg,hop,hd,_⟩:=op7w
     refine Goes.step rfl fun w₁ r₁=> ?_
     have hk1:=hk.rely r₁
     rw [indexw ho hg hop (eval_tmp (hs.got 0 (by omega) (by simp [lis]))) (eval_tmp (hs.got 1 (by omega) (by simp [lis]))),goes_go]
     refine ⟨dp_nil.dn,?_⟩
     have hT:(⟨T,dsw N⟩:Act).put o.dst (.pointer (some ⟨N+3,0,none⟩))=⟨T.setIfInBounds 13 (.pointer (some ⟨N+3,0,none⟩)),dsw N⟩:=by simp [Act.put,hd]
     rw [hT]
     refine ih t' true true true false _ w₁ (by simp at hf ⊢;omega) hk1 (by simpa using (r₁.1.same _ (by omega)).trans ho3) (hs.put (by omega) (fun k' hk' hl=> .inr ⟨by omega,?_⟩) (by omega)) (by rw [Array.getElem?_setIfInBounds_ne (by omega)];exact h12) (fun _=>⟨by rw [Array.getElem?_setIfInBounds_self_of_lt (by rw [hs.size];omega)],rfl,rfl⟩) (by simp)
     have hc:k' =0 \/ k' =1 \/ k' =2 \/ k' =3 \/ k' =4 \/ k' =5:=by omega
     rcases hc with rfl | rfl | rfl | rfl | rfl | rfl<;>simp [lis]
   · obtain ⟨o,ho,hg,hop,hd,_⟩:=op8w
     obtain ⟨sa,sl,sc,rfl⟩:=hv
     refine Goes.step rfl fun w₁ r₁=> ?_
     have hk1:=hk.rely r₁
     have ho1:w₁.heap[N+3]? =wf.heap[N+3]? :=(r₁.1.same _ (by omega)).trans ho3
     have hc:w₁.cell? ⟨N+3,0,none⟩=some u:=by rw [<- hu];simp only [World.cell?,ho1]
     have hz1:w₁.frozen? ⟨N+3,0,none⟩=false:=by rw [<- hz];simp only [World.frozen?,ho1]
     rw [storew ho hg hop (eval_tmp (h7 rfl).1) (eval_tmp h12) hc hz1,goes_go]
     have hA:=aside_setCell w₁ ⟨N+3,0,none⟩ (.slice sa sl sc)
     have hwg:(w₁.setCell ⟨N+3,0,none⟩ (.slice sa sl sc)).heap[N+5]? =w₁.heap[N+5]? :=hA.block _ (by simp)
     refine ⟨⟨⟨⟨hA.os,hA.output,hA.tape⟩,by rw [hA.size];exact Nat.le_refl _,hwg⟩,hA.size,fun b hb=>hA.block b hb,fun e he=> ?_⟩,?_⟩
     · rw [Array.mem_singleton] at he
       subst he
       refine ⟨fun x hx=> ?_,by simp,by simp,by simp,fun x hx=> ?_⟩<;>simp only [Go.ConcR.ofEvent_cell,MemAct.touch?,Option.some.injEq] at hx<;>subst hx
       · rintro ⟨a1,e1,e2⟩
         cases e1
         have:=hSB _ e2
         simp only at this
         omega
       · show N+3<_
         rw [hA.size]
         exact lt_of_cell hc
     · have hT:(⟨T,dsw N⟩:Act).put o.dst undef=⟨T,dsw N⟩:=by simp [Act.put,hd]
       rw [hT]
       have hlive:WgLive lk.tWg (N+5) (w₁.setCell ⟨N+3,0,none⟩ (.slice sa sl sc)):=by
         obtain ⟨st,sm,hl⟩:=hk1.live
         exact ⟨st,sm,hl.of_block hwg⟩
       refine ih t' true true true true T _ (by simp at hf ⊢;omega) (hk1.of (fun b _ _ _ h3=>hA.block b h3) hlive) ?_ ⟨hs.size,hs.t0,hs.cap,fun k' hk' _=>hs.got k' hk' ?_⟩ h12 (fun _=>⟨(h7 rfl).1,rfl,rfl⟩) (fun _=>rfl)
       · simp only [if_true]
         exact set_obj (a:=⟨N+3,0,none⟩) ho1
       · have hc:k' =0 \/ k' =1 \/ k' =2 \/ k' =3 \/ k' =4 \/ k' =5:=by omega
         rcases hc with rfl | rfl | rfl | rfl | rfl | rfl<;>simp [lis]
end
end Crw
end Go.Proofs.YtfphigmeppdocaaGreat
namespace Go.Proofs.YtfphigmeppdocaaGreat
namespace Crw
open Go.Conc Go.ConcN Go.RowKit Go.Conc.Lib Go.ConcR.Gen Go.ConcN.Gen Lo
open Go.ConcR (KK wgBlock WgAt stA smA rd wr mk Payload DC0)
def Xw:Type:=List Frame×World
def ltw (S:Program) (y x:Xw):Prop:=∃τ d,(gsem S x.1).run S (tp x.2 τ d)= .ok y.1 y.2
theorem acc_bar {S:Program} {E:List Frame→World→Prop} (hE:EndsOk S E) {fs:List Frame} {s:World} (h:Bar S E fs s):Acc (ltw S) (fs,s):=by
 induction h with
 | stop h=>exact Acc.intro _ fun y ⟨τ,d,hr⟩=>absurd ⟨_,_,hr⟩ (hE.stuck _ _ h τ d)
 | step _ _ ih=>exact Acc.intro _ fun y ⟨τ,d,hr⟩=>ih τ d y.1 y.2 hr
inductive XX where
 | pre (k:Nat) (x:Xw)
 | sim (x:Xw)
 | post (k:Nat)
def XX.lt (S:Program):XX→XX→Prop
 | .pre k' x',.pre k x=>k' <k∧x' =x
 | .sim x',.pre _ x=>x' =x
 | .sim y,.sim x=>ltw S y x
 | .post _,.sim _=>True
 | .post k',.post k=>k' <k
 | _,_=>False
theorem acc_post (S:Program):∀k,Acc (XX.lt S) (.post k):=by
 intro k
 induction k using Nat.strongRecOn with
 | _ k ih=>
   refine Acc.intro _ fun y hy=> ?_
   cases y with
   | pre k' x=>exact hy.elim
   | sim x=>exact hy.elim
   | post k' =>exact ih k' hy
theorem acc_sim {S:Program} {x:Xw} (h:Acc (ltw S) x):Acc (XX.lt S) (.sim x):=by
 induction h with
 | intro x _ ih=>
   refine Acc.intro _ fun y hy=> ?_
   cases y with
   | pre k' x=>exact hy.elim
   | sim y=>exact ih y hy
   | post k' =>exact acc_post S k'
theorem acc_pre {S:Program} {x:Xw} (h:Acc (ltw S) x):∀k,Acc (XX.lt S) (.pre k x):=by
 intro k
 induction k using Nat.strongRecOn with
 | _ k ih=>
   refine Acc.intro _ fun y hy=> ?_
   cases y with
   | pre k' x' =>
     obtain ⟨h1,rfl⟩:=hy
     exact ih k' h1
   | sim y=>cases hy;exact acc_sim h
   | post k' =>exact hy.elim
abbrev RetS (S:Program):List Frame→World→Prop:=RetQ S fun v _=>isSl v
def SB6 (SB:SBs) (N:Nat):SBs where
 v:=SB.v
 p b:=SB b∨b=N∨b=N+1∨b=N+2∨b=N+4∨b=N+5∨b=N+6
theorem ev_of {SB:Nat→Prop} {SBw:SBs} {N B:Nat} {e:Event} (hsub:∀b,SB b→SB6 SBw N b) (h:EvOk (SB6 SBw N) B e):EvO SB (N+5) B e:=by
 rcases h with rfl | ⟨a,wr,rfl,h1,h2⟩ | ⟨r,wr,sy,rfl,h1⟩
 · exact ⟨(fun x hx=>by cases hx),by simp,by simp,by simp,(fun x hx=>by cases hx)⟩
 · refine ⟨fun x hx=> ?_,by simp,by simp,by simp,fun x hx=> ?_⟩<;>simp only [Go.ConcR.ofEvent_cell,MemAct.touch?,Option.some.injEq] at hx<;>subst hx
   · rintro ⟨a1,e1,e2⟩
     cases e1
     exact h2 (hsub _ e2)
   · exact h1
 · refine ⟨fun x hx=> ?_,by simp,by simp,by simp,fun x hx=> ?_⟩
   · cases wr<;>cases sy<;>first | (cases hx;done) | (have hx' :some (⟨.obj r,_,_⟩:Touch)=some x:=hx;cases hx';rintro ⟨a1,e1,_⟩;cases e1)
   · cases wr<;>cases sy<;>first | (cases hx;done) | (have hx' :some (⟨.obj r,_,_⟩:Touch)=some x:=hx;cases hx';exact h1)
structure WHyp (S:Program) (ok:FuncId→Bool) (sp:FuncId) (SB:Nat→Prop) (SBw:SBs) (N:Nat) (news paths:Value) (s0:World):Prop where
 F:Fine S Tryz.prog ok sp
 hno:∀x cs s,Bar S (RetS S) (Frame.enter S sp x .normal::cs) s→False
 hSB:∀b,SB b→b<N∨b=N+5
 hsub:∀b,SB b→SB6 SBw N b
 known:ok 77=true
 nsp:77≠sp
 all:All S [Frame.enter S 77 (argsw news paths) .normal]
 bar:Bar S (RetS S) [Frame.enter S 77 (argsw news paths) .normal] s0
 cell:∀fr s' fn v,Rc S [Frame.enter S 77 (argsw news paths) .normal] s0 [fr] s' →fr.mode= .returning→S.funcs[fr.fn]? =some fn→(∀τ d,(results fn fr.tmps).run S (tp s' τ d)= .ok v (tp s' τ d))→∃u,s'.cell? ⟨N+3,0,none⟩=some u∧s'.frozen? ⟨N+3,0,none⟩=false
section
variable (S:Program) (ok:FuncId→Bool) (sp:FuncId) (SB:Nat→Prop) (SBw:SBs) (N:Nat) (news paths:Value) (s0:World)
def fs0w:List Frame:=[Frame.enter S 77 (argsw news paths) .normal]
def Cont (c:Frame):Prop:=∀v w u,isSl v→Kw N news paths w→w.cell? ⟨N+3,0,none⟩=some u→w.frozen? ⟨N+3,0,none⟩=false→
 ∃k,Goes Tryz.prog false (Rn N) (Dn SB N) (AtLast N news (w.setCell ⟨N+3,0,none⟩ v).heap[N+3]?) k (G (c.finish v) [bot]) w
structure SimW (x:Xw) (g:Goroutine) (w:World):Prop where
 bar:Bar S (RetS S) x.1 x.2
 rc:Rc S (fs0w S news paths) s0 x.1 x.2
 all:All S x.1
 fn:∀f∈x.1,ok f.fn=true∧f.fn≠sp
 top:∃f cs c,x.1=f::cs∧g=G f (cs++[c,bot])∧Cont SB N news paths c
 wr:WR (SB6 SBw N) x.2 w
 kw:Kw N news paths w
def Came (v:Value) (s' wf:World):Prop:=isSl v∧(∃fr fn,Rc S (fs0w S news paths) s0 [fr] s' ∧fr.mode= .returning∧S.funcs[fr.fn]? =some fn∧∀τ d,(results fn fr.tmps).run S (tp s' τ d)= .ok v (tp s' τ d))∧WR (SB6 SBw N) s' wf∧Kw N news paths wf
def FinW (_:Value) (w:World):Prop:=∃v s' wf,Came S SBw N news paths s0 v s' wf∧(∀b,b≠N+3→b≠N+5→b≠N→w.heap[b]? =wf.heap[b]?)∧w.heap.size=wf.heap.size∧w.heap[N+3]? =(wf.setCell ⟨N+3,0,none⟩ v).heap[N+3]? ∧PayAt N 1 w
def SitW:XX→Goroutine→World→Prop
 | .pre k x,g,w=>x=(fs0w S news paths,s0)∧WR (SB6 SBw N) s0 w∧Kw N news paths w∧Goes Tryz.prog false (Rn N) (Dp SB N) (AtCall N news paths) k g w
 | .sim x,g,w=>SimW S ok sp SB SBw N news paths s0 x g w
 | .post k,g,w=>∃v s' wf,Came S SBw N news paths s0 v s' wf∧(∀b,b≠N+3→b≠N+5→w.heap[b]? =wf.heap[b]?)∧w.heap.size=wf.heap.size∧PayAt N 1 w∧Goes Tryz.prog false (Rn N) (Dn SB N) (AtLast N news (wf.setCell ⟨N+3,0,none⟩ v).heap[N+3]?) k g w
end
section
variable {S:Program} {ok:FuncId→Bool} {sp:FuncId} {SB:Nat→Prop} {SBw:SBs} {N:Nat} {news paths:Value} {s0:World}
theorem wr_stay {s w w₁:World} (h:WR (SB6 SBw N) s w) (hw:∀b,b≠N+5→w₁.heap[b]? =w.heap[b]?) (hs:w₁.heap.size=w.heap.size) (hl:WgLive lk.tWg (N+5) w→WgLive lk.tWg (N+5) w₁) (hv:WgLive lk.tWg (N+5) w):WR (SB6 SBw N) s w₁:=by
 refine ⟨h.size.trans hs.symm,fun b hb=> ?_,fun b hb=> ?_,fun b o v hb=> ?_⟩
 · rw [hw b (fun e=>hb (.inr (by omega)))];exact h.same b hb
 · by_cases e:b=N+5
   · subst e
     obtain ⟨t,c,h1,h2⟩:=h.bad _ hb
     obtain ⟨st,sm,hv⟩:=hv
     obtain ⟨st',sm',hv'⟩:=hl ⟨st,sm,hv⟩
     have e1:t=lk.tWg:=by
       have:=h2.symm.trans hv
       simp only [wgBlock,Option.some.injEq,Obj.cells.injEq] at this
       exact this.2.1
     subst e1
     exact ⟨_,_,h1,hv'⟩
   · rw [hw b e];exact h.bad b hb
 · rw [hw b (fun e=>hb (.inr (by omega)))];exact h.old b o v hb
theorem rn_of {w w₁:World} (hs:Stay (N+5) w w₁) (hr:RW lk.tWg (N+5) N 1 (N+6) 0 w w₁):Rn N w w₁:=⟨hs,hr.live⟩
theorem callw_step {T:Array Value} {rest:List Nat} {ls:Array Bool} (hs:Slw N news paths ls T) (h2:ls.getD 2 false=true) (h3:ls.getD 3 false=true) (h4:ls.getD 4 false=true) (h5:ls.getD 5 false=true) (w:World):
   stepG Tryz.prog false (G (bw.at ⟨T,dsw N⟩ (.inRegion opsw (6::rest)::[])) [bot]) w= .go (G (Frame.enter Tryz.prog 77 (argsw news paths) .normal) [bw.at ⟨T,dsw N⟩ (.inRegion opsw (6::rest)::[]),bot]) w #[]:=by
 obtain ⟨o,ho,hg,hop,hd,_⟩:=op6w
 have hx:(#[.tmp 8,.tmp 9,.tmp 10,.tmp 11]:Array Operand).map (⟨T,dsw N⟩:Act).eval=argsw news paths:=by
   have e8:=eval_tmp (ds:=dsw N) (hs.got 2 (by omega) h2)
   have e9:=eval_tmp (ds:=dsw N) (hs.got 3 (by omega) h3)
   have e10:=eval_tmp (ds:=dsw N) (hs.got 4 (by omega) h4)
   have e11:=eval_tmp (ds:=dsw N) (hs.got 5 (by omega) h5)
   simp only [Nat.reduceAdd] at e8 e9 e10 e11
   simp [e8,e9,e10,e11,argsw,valw]
 have hb' :Tryz.f77.body.isNone=false:=by kernel_rfl
 have hnm : (Tryz.f77.name == "runtime.NumGoroutine") = false := by kernel_rfl
 rw [stepG_enter ho (by simp [Region.wanted,hg]) (by decide) (run_call_body hop Tryz.func77 hnm hb'),hx]
 have:listed Tryz.prog bw.fn ⟨T,dsw N⟩ o w=#[]:=by unfold listed;rw [events_call_body hop Tryz.func77 hnm hb'];exact seen_none _ _
 rw [this]
theorem eff_of {s s' w w' :World} {u:Array Event} (g:Goes2 (SB6 SBw N) s s' w w' u):WEff (N+5) w w':=⟨⟨g.kept.os,g.kept.out,g.kept.tape⟩,g.kept.size,g.bad _ (.inr (by omega))⟩
theorem kw_of {s s' w w' :World} {u:Array Event} (g:Goes2 (SB6 SBw N) s s' w w' u) (h:Kw N news paths w):Kw N news paths w':=
 h.of (fun b h1 h2 h3 h4=>g.bad b (.inr (by omega))) (by obtain ⟨st,sm,hv⟩:=h.live;exact ⟨st,sm,hv.of_block (g.bad _ (.inr (by omega)))⟩)
theorem SimW.go (W:WHyp S ok sp SB SBw N news paths s0) {x:Xw} {g:Goroutine} {w:World} (h:SimW S ok sp SB SBw N news paths s0 x g w):
   ∃g' w' es,stepG Tryz.prog false g w= .go g' w' es∧WEff (N+5) w w' ∧(∀e∈es,EvO SB (N+5) w'.heap.size e)∧
     ((∃x',ltw S x' x∧SimW S ok sp SB SBw N news paths s0 x' g' w')∨∃k,SitW S ok sp SB SBw N news paths s0 (.post k) g' w'):=by
 obtain ⟨hbar,hrc,hall,hfn,⟨f,cs,c,hx,rfl,hc⟩,hwr,hk⟩:=h
 obtain ⟨fs,s⟩:=x
 simp only at hbar hrc hall hfn hx hwr
 subst hx
 obtain ⟨hok,hsp⟩:=hfn f List.mem_cons_self
 obtain ⟨fn,fn',e1,e2,e3,_⟩:=W.F.same _ hok
 have e3:=e3 hsp
 subst e3
 have hpl:=(all_cons.1 hall).1.plain
 have hA:∀s1,Agr sp (tp s w.tape w.drawn) s1 w:=fun s1 i q _ _=>rfl
 have hw0:WR (SB6 SBw N) (tp s w.tape w.drawn) w:=⟨hwr.size,hwr.same,hwr.bad,hwr.old⟩
 cases hbar with
 | stop hE=>
   obtain ⟨fr,he,hm,fn1,v,hfn1,hres,hsl⟩:=hE
   cases he
   rw [e1] at hfn1
   cases hfn1
   obtain ⟨_,_,_,hw⟩:=((results_ok (zo:=sp) (SB:=SB6 SBw N) W.F.sm fn' f.tmps) (tp s w.tape w.drawn) hw0.sh).2 _ _ (hres w.tape w.drawn)
   obtain ⟨v',w',u,r,rfl,g⟩:=hw w #[] hw0 (hA _)
   have hg:(gsem Tryz.prog (f::[c])).runT Tryz.prog w #[]=(.ok (c.finish v::[]) w',#[]++u):=by
     unfold gsem
     simp only [hm,e2]
     show ((results fn' f.tmps).bind fun v=>Sem.pure (c.finish v::[])).runT Tryz.prog w #[]=_
     rw [Sem.runT_bind',r]
     simp only [Sem.runT]
   obtain ⟨f1,cs1,he,hst⟩:=step_of_gsem hpl hg false [bot] ⟨_,e2⟩
   cases he
   obtain ⟨u1,hcell,hz⟩:=W.cell f s fn' v hrc hm e1 hres
   have hwr' :WR (SB6 SBw N) s w':=⟨g.wr.size,g.wr.same,g.wr.bad,g.wr.old⟩
   obtain ⟨_,hb,hc1⟩:=hwr'.cell hcell
   have hz1:w'.frozen? ⟨N+3,0,none⟩=false:=by rw [←hz];unfold World.frozen?; rw [hb]
   have hk':=kw_of g hk
   obtain ⟨k,hgo⟩:=hc v w' u1 hsl hk' hc1 hz1
   refine ⟨_,w',_,hst,eff_of g,fun e he=> ?_,.inr ⟨k,v,s,w',⟨hsl,⟨f,fn',hrc,hm,e1,hres⟩,hwr',hk'⟩,fun _ _ _=>rfl,rfl,hk'.pN,hgo⟩⟩
   have:=mem_seen he
   rw [Array.empty_append] at this
   exact ev_of W.hsub (g.ev e this)
 | step h1 h2=>
   obtain ⟨fs1,s1,hr⟩:=h1 w.tape w.drawn
   have hB1:=h2 _ _ _ _ hr
   have hfn1:∀fr∈fs1,ok fr.fn=true∧fr.fn≠sp:=by
     obtain ⟨_,_,hd⟩:=((gsem_ok (SB:=SB6 SBw N) W.F hall hok hsp) (tp s w.tape w.drawn) hw0.sh).2 _ _ hr
     have hA1:All S fs1:=by rcases hd with ⟨hA,_⟩ | ⟨⟨_,hA,_⟩,_⟩<;>exact hA
     rcases gsem_top hr with ht | ⟨g,y,rfl⟩
     · intro fr hfr
       obtain ⟨f0,h0,e⟩:=ht fr hfr
       rw [e];exact hfn f0 h0
     · obtain ⟨fng,hg⟩:=(hA1 _ List.mem_cons_self).known
       have hg' :S.funcs[g]? =some fng:=hg
       intro fr hfr
       rcases List.mem_cons.1 hfr with rfl | hfr
       · refine ⟨?_,?_⟩
         · cases hog:ok g with
           | true=>exact hog
           | false=>exact (bar_refuse hg' (W.F.dead g fng hog hg') hB1).elim
         · intro e
           have e' :g=sp:=e
           subst e'
           exact W.hno _ _ _ hB1
       · exact hfn fr hfr
   obtain ⟨_,_,hd⟩:=((gsem_ok (SB:=SB6 SBw N) W.F hall hok hsp) (tp s w.tape w.drawn) hw0.sh).2 _ _ hr
   rcases hd with ⟨_,g,y,hg,rfl⟩ | ⟨_,hw⟩
   · have:=(hfn1 _ List.mem_cons_self).1
     have h' :ok g=true:=this
     rw [hg] at h';cases h'
   · obtain ⟨l,w',u,r,⟨hA1,hl⟩,g⟩:=hw w #[] hw0 (hA _)
     have hl' :l=fs1:=by
       rcases hl with hl | ⟨y,rfl,_⟩
       · exact hl.1.symm
       · exact absurd rfl (hfn1 _ List.mem_cons_self).2
     subst hl'
     obtain ⟨f1,cs1,rfl,hst⟩:=step_of_gsem hpl r false [c,bot] ⟨_,e2⟩
     refine ⟨_,w',_,hst,eff_of g,fun e he=> ?_,.inl ⟨(f1::cs1,s1),⟨w.tape,w.drawn,hr⟩,hB1,.step hrc hr,hA1,hfn1,⟨f1,cs1,c,rfl,rfl,hc⟩,g.wr,kw_of g hk⟩⟩
     have:=mem_seen he
     rw [Array.empty_append] at this
     exact ev_of W.hsub (g.ev e this)
end
end Crw
end Go.Proofs.YtfphigmeppdocaaGreat
namespace Go.Proofs.YtfphigmeppdocaaGreat
namespace Crw
open Go.Conc Go.ConcN Go.RowKit Go.Conc.Lib Go.ConcR.Gen Go.ConcN.Gen
open Go.ConcR (KK wgBlock WgAt stA smA rd wr mk Payload DC0)
def bs:Frame:=base 52
theorem louds:(Tryz.prog.funcs[bs.fn]?).any (·.norace)=false:=by kernel_rfl
section
variable {a:Act} {w:World} {ops:Array Oper} {k:Nat} {rest:List Nat} {o:Oper} {kk:List Item} {cs:List Frame}
theorem box1 {x:Operand} (ho:ops[k]? =some o) (hg:o.guard=none) (hop:o.op= .box 99 x) {sa:Option Addr} {sl sc:Nat} (hx:a.eval x= .slice sa sl sc):
   stepG Tryz.prog true (G (bs.at a (.inRegion ops (k::rest)::kk)) cs) w= .go (G (bs.at (a.put o.dst (.pointer (some ⟨w.heap.size,0,none⟩))) (.inRegion ops rest::kk)) cs) (w.alloc (.cells #[.slice sa sl sc] 99)) #[]:=by
 have hr:(execOp a.eval o).run Tryz.prog w= .ok (.value (.pointer (some ⟨w.heap.size,0,none⟩))) (w.alloc (.cells #[.slice sa sl sc] 99)):=by
   unfold execOp
   simp only [hop,hx]
   simp [go_sem]
 have he:(execOp a.eval o).events Tryz.prog w #[]=#[]:=by
   unfold execOp
   simp only [hop,hx]
   simp [go_sem]
 rw [stepG_value ho (by simp [Region.wanted,hg]) (by decide) hr]
 unfold listed
 rw [he,seen_none]
theorem box2 {x:Operand} (ho:ops[k]? =some o) (hg:o.guard=none) (hop:o.op= .box 101 x) {sa:Option Addr} {sl sc:Nat} (hx:a.eval x= .slice sa sl sc):
   stepG Tryz.prog true (G (bs.at a (.inRegion ops (k::rest)::kk)) cs) w= .go (G (bs.at (a.put o.dst (.pointer (some ⟨w.heap.size,0,none⟩))) (.inRegion ops rest::kk)) cs) (w.alloc (.cells #[.slice sa sl sc] 101)) #[]:=by
 have hr:(execOp a.eval o).run Tryz.prog w= .ok (.value (.pointer (some ⟨w.heap.size,0,none⟩))) (w.alloc (.cells #[.slice sa sl sc] 101)):=by
   unfold execOp
   simp only [hop,hx]
   simp [go_sem]
 have he:(execOp a.eval o).events Tryz.prog w #[]=#[]:=by
   unfold execOp
   simp only [hop,hx]
   simp [go_sem]
 rw [stepG_value ho (by simp [Region.wanted,hg]) (by decide) hr]
 unfold listed
 rw [he,seen_none]
theorem box3 {x:Operand} (ho:ops[k]? =some o) (hg:o.guard=none) (hop:o.op= .box 3 x) {m:Int} (hx:a.eval x= .int .i64 m):
   stepG Tryz.prog true (G (bs.at a (.inRegion ops (k::rest)::kk)) cs) w= .go (G (bs.at (a.put o.dst (.pointer (some ⟨w.heap.size,0,none⟩))) (.inRegion ops rest::kk)) cs) (w.alloc (.cells #[.int .i64 m] 3)) #[]:=by
 have hr:(execOp a.eval o).run Tryz.prog w= .ok (.value (.pointer (some ⟨w.heap.size,0,none⟩))) (w.alloc (.cells #[.int .i64 m] 3)):=by
   unfold execOp
   simp only [hop,hx]
   simp [go_sem]
 have he:(execOp a.eval o).events Tryz.prog w #[]=#[]:=by
   unfold execOp
   simp only [hop,hx]
   simp [go_sem]
 rw [stepG_value ho (by simp [Region.wanted,hg]) (by decide) hr]
 unfold listed
 rw [he,seen_none]
theorem alloc1 (ho:ops[k]? =some o) (hg:o.guard=none) (hop:o.op= .alloc 104):
   stepG Tryz.prog true (G (bs.at a (.inRegion ops (k::rest)::kk)) cs) w= .go (G (bs.at (a.put o.dst (.pointer (some ⟨w.heap.size,0,none⟩))) (.inRegion ops rest::kk)) cs) (w.alloc (.cells #[.slice none 0 0] 104)) #[]:=by
 have hr:(execOp a.eval o).run Tryz.prog w= .ok (.value (.pointer (some ⟨w.heap.size,0,none⟩))) (w.alloc (.cells #[.slice none 0 0] 104)):=by
   unfold execOp
   simp only [hop]
   simp [go_sem]
 have he:(execOp a.eval o).events Tryz.prog w #[]=#[]:=by
   unfold execOp
   simp only [hop]
   simp [go_sem]
 rw [stepG_value ho (by simp [Region.wanted,hg]) (by decide) hr]
 unfold listed
 rw [he,seen_none]
theorem alloc2 (ho:ops[k]? =some o) (hg:o.guard=none) (hop:o.op= .alloc 3):
   stepG Tryz.prog true (G (bs.at a (.inRegion ops (k::rest)::kk)) cs) w= .go (G (bs.at (a.put o.dst (.pointer (some ⟨w.heap.size,0,none⟩))) (.inRegion ops rest::kk)) cs) (w.alloc (.cells #[.int .i64 0] 3)) #[]:=by
 have hr:(execOp a.eval o).run Tryz.prog w= .ok (.value (.pointer (some ⟨w.heap.size,0,none⟩))) (w.alloc (.cells #[.int .i64 0] 3)):=by
   unfold execOp
   simp only [hop]
   simp [go_sem]
 have he:(execOp a.eval o).events Tryz.prog w #[]=#[]:=by
   unfold execOp
   simp only [hop]
   simp [go_sem]
 rw [stepG_value ho (by simp [Region.wanted,hg]) (by decide) hr]
 unfold listed
 rw [he,seen_none]
theorem alloc3 (ho:ops[k]? =some o) (hg:o.guard=none) (hop:o.op= .alloc 141):
   stepG Tryz.prog true (G (bs.at a (.inRegion ops (k::rest)::kk)) cs) w= .go (G (bs.at (a.put o.dst (.pointer (some ⟨w.heap.size,0,none⟩))) (.inRegion ops rest::kk)) cs) (w.alloc (.cells #[.int .u64 0,.int .u32 0] 141)) #[]:=by
 have hr:(execOp a.eval o).run Tryz.prog w= .ok (.value (.pointer (some ⟨w.heap.size,0,none⟩))) (w.alloc (.cells #[.int .u64 0,.int .u32 0] 141)):=by
   unfold execOp
   simp only [hop]
   simp [go_sem]
 have he:(execOp a.eval o).events Tryz.prog w #[]=#[]:=by
   unfold execOp
   simp only [hop]
   simp [go_sem]
 rw [stepG_value ho (by simp [Region.wanted,hg]) (by decide) hr]
 unfold listed
 rw [he,seen_none]
set_option maxRecDepth 20000 in
theorem made1 {x y:Operand} (ho:ops[k]? =some o) (hg:o.guard=none) (hop:o.op= .makeSlice 104 x y) {n:Nat} (hn:n <= 64) (hx:a.eval x= .int .i64 n) (hy:a.eval y= .int .i64 n):
   stepG Tryz.prog true (G (bs.at a (.inRegion ops (k::rest)::kk)) cs) w= .go (G (bs.at (a.put o.dst (.slice (some ⟨w.heap.size,0,none⟩) n n)) (.inRegion ops rest::kk)) cs) (w.alloc (.cells (madeCells #[.slice none 0 0] n) 99)) #[]:=by
 have eb:Tryz.t99.bytes=24:=by kernel_rfl
 have hm:=run_make (P:=Tryz.prog) w 104 99 Tryz.t99 (.slice none 0 0) Tryz.underlying104 Tryz.type99 (by kernel_rfl) .i64 .i64 (n:Int) (n:Int) (by omega) (by omega) (by rw [eb];omega) (by omega)
 have hme:=events_make (P:=Tryz.prog) w 104 99 Tryz.t99 (.slice none 0 0) Tryz.underlying104 Tryz.type99 (by kernel_rfl) .i64 .i64 (n:Int) (n:Int) (by omega) (by omega) (by rw [eb];omega) (by omega) (by rw [eb];omega) #[]
 have es:Tryz.t99.size=1:=by kernel_rfl
 rw [es] at hm
 have hr:(execOp a.eval o).run Tryz.prog w= .ok (.value (.slice (some ⟨w.heap.size,0,none⟩) n n)) (w.alloc (.cells (madeCells #[.slice none 0 0] n) 99)):=by
   unfold execOp
   simp only [hop,hx,hy]
   simp [go_sem,hm,Value.cells]
 have he:(execOp a.eval o).events Tryz.prog w #[]=#[]:=by
   unfold execOp
   simp only [hop,hx,hy]
   simp [go_sem,hme]
 rw [stepG_value ho (by simp [Region.wanted,hg]) (by decide) hr]
 unfold listed
 rw [he,seen_none]
theorem loads {ty:TypeId} {x:Operand} (ho:ops[k]? =some o) (hg:o.guard=none) (hop:o.op= .load ty x) (hty:∀w,(isAgg ty).run Tryz.prog w= .ok false w) {ad:Addr} {v:Value} (hx:a.eval x= .pointer (some ad)) (hc:w.cell? ad=some v):
   stepG Tryz.prog true (G (bs.at a (.inRegion ops (k::rest)::kk)) cs) w= .go (G (bs.at (a.put o.dst v) (.inRegion ops rest::kk)) cs) w #[⟨.cell ad,false,false⟩]:=by
 have hr:(execOp a.eval o).run Tryz.prog w= .ok (.value v) w:=by
   unfold execOp
   simp only [hop,hx]
   simp [go_sem,hty,hc]
 have he:(execOp a.eval o).events Tryz.prog w #[]=#[⟨.cell ad,false,false⟩]:=by
   unfold execOp
   simp only [hop,hx]
   simp [go_sem,hty,hc]
 rw [stepG_value ho (by simp [Region.wanted,hg]) (by decide) hr]
 unfold listed
 rw [he,seen_eq louds (by simp)]
theorem store1 {x y:Operand} (ho:ops[k]? =some o) (hg:o.guard=none) (hop:o.op= .store 104 x y) {ad:Addr} {u:Value} (hx:a.eval x= .pointer (some ad)) {sa:Option Addr} {sl sc:Nat} (hy:a.eval y= .slice sa sl sc) (hc:w.cell? ad=some u) (hz:w.frozen? ad=false):
   stepG Tryz.prog true (G (bs.at a (.inRegion ops (k::rest)::kk)) cs) w= .go (G (bs.at (a.put o.dst undef) (.inRegion ops rest::kk)) cs) (w.setCell ad (.slice sa sl sc)) #[⟨.cell ad,true,false⟩]:=by
 have hr:(execOp a.eval o).run Tryz.prog w= .ok .skip (w.setCell ad (.slice sa sl sc)):=by
   unfold execOp
   simp only [hop,hx,hy]
   simp [go_sem,stored,hc,hz]
 have he:(execOp a.eval o).events Tryz.prog w #[]=#[⟨.cell ad,true,false⟩]:=by
   unfold execOp
   simp only [hop,hx,hy]
   have hst:∀es,(store ad (.slice sa sl sc)).events Tryz.prog w es=storedEv Tryz.prog w es ad (.slice sa sl sc) .plain:=fun es=>events_store Tryz.prog w es ad (.slice sa sl sc) .plain rfl
   simp [go_sem,hst,storedEv,hc,hz]
 rw [stepG_none ho (by simp [Region.wanted,hg]) (by decide) hr]
 unfold listed
 rw [he,seen_eq louds (by simp)]
theorem store2 {x y:Operand} (ho:ops[k]? =some o) (hg:o.guard=none) (hop:o.op= .store 3 x y) {ad:Addr} {u:Value} (hx:a.eval x= .pointer (some ad)) {m:Int} (hy:a.eval y= .int .i64 m) (hc:w.cell? ad=some u) (hz:w.frozen? ad=false):
   stepG Tryz.prog true (G (bs.at a (.inRegion ops (k::rest)::kk)) cs) w= .go (G (bs.at (a.put o.dst undef) (.inRegion ops rest::kk)) cs) (w.setCell ad (.int .i64 m)) #[⟨.cell ad,true,false⟩]:=by
 have hr:(execOp a.eval o).run Tryz.prog w= .ok .skip (w.setCell ad (.int .i64 m)):=by
   unfold execOp
   simp only [hop,hx,hy]
   simp [go_sem,stored,hc,hz]
 have he:(execOp a.eval o).events Tryz.prog w #[]=#[⟨.cell ad,true,false⟩]:=by
   unfold execOp
   simp only [hop,hx,hy]
   simp [go_sem,storedEv,hc,hz]
 rw [stepG_none ho (by simp [Region.wanted,hg]) (by decide) hr]
 unfold listed
 rw [he,seen_eq louds (by simp)]
theorem vals {v:Value} (ho:ops[k]? =some o) (hg:o.guard=none) (hr:(execOp a.eval o).run Tryz.prog w= .ok (.value v) w) (he:(execOp a.eval o).events Tryz.prog w #[]=#[]):
   stepG Tryz.prog true (G (bs.at a (.inRegion ops (k::rest)::kk)) cs) w= .go (G (bs.at (a.put o.dst v) (.inRegion ops rest::kk)) cs) w #[]:=by
 rw [stepG_value ho (by simp [Region.wanted,hg]) (by decide) hr]
 unfold listed
 rw [he,seen_none]
end
end Crw
end Go.Proofs.YtfphigmeppdocaaGreat
namespace Go.Proofs.YtfphigmeppdocaaGreat
namespace Crw
open Go.Conc Go.ConcN Go.RowKit Go.Conc.Lib Go.ConcR.Gen Go.ConcN.Gen
open Go.ConcR (KK wgBlock WgAt stA smA rd wr mk Payload DC0)
theorem at2 (w:World) (d d' :Nat):(w.at d).at d' =w.at d':=rfl
theorem size_at2 (w:World) (d:Nat):(w.at d).heap.size=w.heap.size:=rfl
theorem alloc_at2 (w:World) (d:Nat) (o:Obj):(w.at d).alloc o=(w.alloc o).at d:=rfl
theorem setCell_at2 (w:World) (d:Nat) (a:Addr) (v:Value):(w.at d).setCell a v=(w.setCell a v).at d:=rfl
theorem heap_new (w:World) (o:Obj):(w.alloc o).heap[w.heap.size]? =some o:=by
 show (w.heap.push o)[w.heap.size]? =some o
 simp
theorem heap_old (w:World) (o:Obj) {b:Nat} (h:b<w.heap.size):(w.alloc o).heap[b]? =w.heap[b]? :=by
 show (w.heap.push o)[b]? =w.heap[b]?
 rw [Array.getElem?_push_lt h,Array.getElem?_eq_getElem h]
noncomputable def bodys:Code:=Tryz.f52.body.getD .skip
section
variable (w:World) (n:Nat) (na pa:Option Addr) (nl nc pl pc:Nat)
def Wa1:World:=w.alloc (.cells #[.slice na nl nc] 99)
def Wa2:World:=(Wa1 w na nl nc).alloc (.cells #[.slice pa pl pc] 101)
def Wa3:World:=(Wa2 w na pa nl nc pl pc).alloc (.cells #[.int .i64 n] 3)
def Wa4:World:=(Wa3 w n na pa nl nc pl pc).alloc (.cells (madeCells #[.slice none 0 0] n) 99)
def Wa5:World:=(Wa4 w n na pa nl nc pl pc).alloc (.cells #[.slice none 0 0] 104)
def Wa6:World:=(Wa5 w n na pa nl nc pl pc).setCell ⟨w.heap.size+4,0,none⟩ (.slice (some ⟨w.heap.size+3,0,none⟩) n n)
def Wa7:World:=(Wa6 w n na pa nl nc pl pc).alloc (.cells #[.int .u64 0,.int .u32 0] 141)
theorem sz1:(Wa1 w na nl nc).heap.size=w.heap.size+1:=by simp [Wa1]
theorem sz2:(Wa2 w na pa nl nc pl pc).heap.size=w.heap.size+2:=by simp [Wa2,sz1]
theorem sz3:(Wa3 w n na pa nl nc pl pc).heap.size=w.heap.size+3:=by simp [Wa3,sz2]
theorem sz4:(Wa4 w n na pa nl nc pl pc).heap.size=w.heap.size+4:=by simp [Wa4,sz3]
theorem sz5:(Wa5 w n na pa nl nc pl pc).heap.size=w.heap.size+5:=by simp [Wa5,sz4]
theorem sz6:(Wa6 w n na pa nl nc pl pc).heap.size=w.heap.size+5:=by rw [Wa6,(aside_setCell _ _ _).size,sz5]
theorem sz7:(Wa7 w n na pa nl nc pl pc).heap.size=w.heap.size+6:=by simp [Wa7,sz6]
end
noncomputable def opsA:Array Oper:=match bodys with
 | .seq _ (.seq _ (.seq (.region _ ops _) _))=>ops
 | _=>#[]
noncomputable def codeA:Code:=match bodys with
 | .seq _ (.seq _ (.seq _ c))=>c
 | _=> .skip
section
variable {SB:Nat -> Prop} {w:World} {n:Nat} {na pa:Option Addr} {nl nc pl pc:Nat} {cs:List Frame}
theorem df_alloc {X:World} {o:Obj} {d:Nat}:DF SB (X.at d) ((X.alloc o).at d) #[]:=⟨by show X.heap.size <= (X.alloc o).heap.size;simp,by simp⟩
theorem df_cell {X Y:World} {ad:Addr} {wr:Bool} {d:Nat} (hs:Y.heap.size=X.heap.size) (h1:¬SB ad.block) (h2:ad.block<X.heap.size):DF SB (X.at d) (Y.at d) #[⟨.cell ad,wr,false⟩]:=by
 refine ⟨by show X.heap.size <= Y.heap.size;omega,fun e he=> ?_⟩
 rw [Array.mem_singleton] at he
 subst he
 refine ⟨fun x hx=> ?_,by simp,by simp,fun x hx=> ?_⟩<;>simp only [Go.ConcR.ofEvent_cell,MemAct.touch?,Option.some.injEq] at hx<;>subst hx
 · rintro ⟨a1,e1,e2⟩
   cases e1
   exact h1 e2
 · show ad.block<Y.heap.size
   omega
def slA (N n:Nat) (na pa:Option Addr) (nl nc pl pc:Nat):Array Value:=#[.slice na nl nc,.slice pa pl pc,.int .i64 n,.pointer (some ⟨N,0,none⟩),.pointer (some ⟨N+1,0,none⟩),.pointer (some ⟨N+2,0,none⟩),.slice none 0 0,.pointer (some ⟨N+4,0,none⟩),undef,undef,.int .i64 n,.slice (some ⟨N+3,0,none⟩) n n,undef,undef,undef,undef,undef,undef,undef,undef,undef]
theorem c3 (w:World) (n:Nat) (na pa:Option Addr) (nl nc pl pc:Nat):(Wa3 w n na pa nl nc pl pc).cell? ⟨w.heap.size+2,0,none⟩=some (.int .i64 n):=by
 have:=sz2 w na pa nl nc pl pc
 rw [Wa3,<- this]
 simp only [World.cell?]
 rw [heap_new]
 rfl
theorem c5 (w:World) (n:Nat) (na pa:Option Addr) (nl nc pl pc:Nat):(Wa5 w n na pa nl nc pl pc).cell? ⟨w.heap.size+4,0,none⟩=some (.slice none 0 0) /\ (Wa5 w n na pa nl nc pl pc).frozen? ⟨w.heap.size+4,0,none⟩=false:=by
 have:=sz4 w n na pa nl nc pl pc
 rw [Wa5,<- this]
 simp only [World.cell?,World.frozen?]
 rw [heap_new]
 exact ⟨rfl,rfl⟩
theorem h7 (w:World) (n:Nat) (na pa:Option Addr) (nl nc pl pc:Nat):(Wa7 w n na pa nl nc pl pc).heap[w.heap.size]? =some (.cells #[.slice na nl nc] 99) /\ (Wa7 w n na pa nl nc pl pc).heap[w.heap.size+1]? =some (.cells #[.slice pa pl pc] 101) /\
   (Wa7 w n na pa nl nc pl pc).heap[w.heap.size+2]? =some (.cells #[.int .i64 n] 3) /\ (Wa7 w n na pa nl nc pl pc).heap[w.heap.size+3]? =some (.cells (madeCells #[.slice none 0 0] n) 99) /\
   (Wa7 w n na pa nl nc pl pc).heap[w.heap.size+4]? =some (.cells #[.slice (some ⟨w.heap.size+3,0,none⟩) n n] 104) /\ (Wa7 w n na pa nl nc pl pc).heap[w.heap.size+5]? =some (.cells #[.int .u64 0,.int .u32 0] 141) /\
   ∀b,b<w.heap.size -> (Wa7 w n na pa nl nc pl pc).heap[b]? =w.heap[b]? :=by
 have s1:=sz1 w na nl nc;have s2:=sz2 w na pa nl nc pl pc;have s3:=sz3 w n na pa nl nc pl pc;have s4:=sz4 w n na pa nl nc pl pc;have s5:=sz5 w n na pa nl nc pl pc;have s6:=sz6 w n na pa nl nc pl pc
 have o6:∀b,b<w.heap.size+5 -> (Wa7 w n na pa nl nc pl pc).heap[b]? =(Wa6 w n na pa nl nc pl pc).heap[b]? :=fun b hb=>heap_old _ _ (by omega)
 have o5:∀b,b≠w.heap.size+4 -> (Wa6 w n na pa nl nc pl pc).heap[b]? =(Wa5 w n na pa nl nc pl pc).heap[b]? :=fun b hb=>(aside_setCell _ _ _).block b hb
 have o4:∀b,b<w.heap.size+4 -> (Wa5 w n na pa nl nc pl pc).heap[b]? =(Wa4 w n na pa nl nc pl pc).heap[b]? :=fun b hb=>heap_old _ _ (by omega)
 have o3:∀b,b<w.heap.size+3 -> (Wa4 w n na pa nl nc pl pc).heap[b]? =(Wa3 w n na pa nl nc pl pc).heap[b]? :=fun b hb=>heap_old _ _ (by omega)
 have o2:∀b,b<w.heap.size+2 -> (Wa3 w n na pa nl nc pl pc).heap[b]? =(Wa2 w na pa nl nc pl pc).heap[b]? :=fun b hb=>heap_old _ _ (by omega)
 have o1:∀b,b<w.heap.size+1 -> (Wa2 w na pa nl nc pl pc).heap[b]? =(Wa1 w na nl nc).heap[b]? :=fun b hb=>heap_old _ _ (by omega)
 have o0:∀b,b<w.heap.size -> (Wa1 w na nl nc).heap[b]? =w.heap[b]? :=fun b hb=>heap_old _ _ hb
 refine ⟨?_,?_,?_,?_,?_,?_,fun b hb=> ?_⟩
 · rw [o6 _ (by omega),o5 _ (by omega),o4 _ (by omega),o3 _ (by omega),o2 _ (by omega),o1 _ (by omega)];exact heap_new _ _
 · rw [o6 _ (by omega),o5 _ (by omega),o4 _ (by omega),o3 _ (by omega),o2 _ (by omega),<- s1];exact heap_new _ _
 · rw [o6 _ (by omega),o5 _ (by omega),o4 _ (by omega),o3 _ (by omega),<- s2];exact heap_new _ _
 · rw [o6 _ (by omega),o5 _ (by omega),o4 _ (by omega),<- s3];exact heap_new _ _
 · rw [o6 _ (by omega)]
   have e5:(Wa5 w n na pa nl nc pl pc).heap[w.heap.size+4]? =some (.cells #[.slice none 0 0] 104 (0,0)):=by rw [<- s4];exact heap_new _ _
   rw [Wa6,setCell_eq_setRow _ (w.heap.size+4) 0 _ _ (0,0) _ e5,setRow_heap _ (w.heap.size+4) _ _ _ _ e5]
   simp
 · rw [<- s6];exact heap_new _ _
 · rw [o6 _ (by omega),o5 _ (by omega),o4 _ (by omega),o3 _ (by omega),o2 _ (by omega),o1 _ (by omega),o0 _ hb]
theorem c7 (w:World) (n:Nat) (na pa:Option Addr) (nl nc pl pc:Nat):(Wa7 w n na pa nl nc pl pc).cell? ⟨w.heap.size+2,0,none⟩=some (.int .i64 n):=by
 simp only [World.cell?,(h7 w n na pa nl nc pl pc).2.2.1]
 rfl
set_option maxRecDepth 20000 in
theorem walkA (hSB:∀b,SB b -> b<w.heap.size) (hn:n <= 64) (d0:Nat):
   Goes Tryz.prog true AtRel (DF SB) (fun g w' =>∃d,w' =(Wa6 w n na pa nl nc pl pc).at d /\ g=G (bs.at ⟨slA w.heap.size n na pa nl nc pl pc,[]⟩ [.inRegion opsA [0],.code codeA]) cs) 20
     (G (bs.at ⟨#[.slice na nl nc,.slice pa pl pc,.int .i64 n,undef,undef,undef,undef,undef,undef,undef,undef,undef,undef,undef,undef,undef,undef,undef,undef,undef,undef],[]⟩ [.code bodys]) cs) (w.at d0):=by
 have hno:∀b,w.heap.size <= b -> ¬SB b:=fun b hb hs=>by have:=hSB b hs;omega
 simp only [bodys,Tryz.f52,Option.getD_some]
 (refine Goes.step rfl (fun _ hq=> ?_);obtain ⟨d,rfl⟩:=hq;simp only [at2];rw [stepG_seq];simp only [goes_go];refine ⟨df_nil,?_⟩)
 (refine Goes.step rfl (fun _ hq=> ?_);obtain ⟨d,rfl⟩:=hq;simp only [at2];rw [stepG_region];simp only [goes_go,List.size_toArray,List.length_cons,List.length_nil,Nat.zero_add];(try simp only [Nat.reduceAdd]);simp only [List.range,List.range.loop];refine ⟨df_nil,?_⟩)
 (refine Goes.step rfl (fun _ hq=> ?_);obtain ⟨d,rfl⟩:=hq;simp only [at2];rw [box1 rfl rfl rfl rfl];simp only [goes_go,size_at2,alloc_at2];refine ⟨df_alloc,?_⟩;walk_nrm;rw [show w.alloc (.cells #[.slice na nl nc] 99)=Wa1 w na nl nc from rfl])
 (refine Goes.step rfl (fun _ hq=> ?_);obtain ⟨d,rfl⟩:=hq;simp only [at2];rw [box2 rfl rfl rfl rfl];simp only [goes_go,size_at2,alloc_at2];refine ⟨df_alloc,?_⟩;walk_nrm;rw [sz1,show (Wa1 w na nl nc).alloc (.cells #[.slice pa pl pc] 101)=Wa2 w na pa nl nc pl pc from rfl])
 (refine Goes.step rfl (fun _ hq=> ?_);obtain ⟨d,rfl⟩:=hq;simp only [at2];rw [box3 rfl rfl rfl rfl];simp only [goes_go,size_at2,alloc_at2];refine ⟨df_alloc,?_⟩;walk_nrm;rw [sz2,show (Wa2 w na pa nl nc pl pc).alloc (.cells #[.int .i64 n] 3)=Wa3 w n na pa nl nc pl pc from rfl])
 (refine Goes.step rfl (fun _ hq=> ?_);obtain ⟨d,rfl⟩:=hq;simp only [at2];rw [vals rfl rfl (v:= .slice none 0 0) (by unfold execOp;simp [go_sem]) (by unfold execOp;simp [go_sem])];simp only [goes_go];refine ⟨df_nil,?_⟩;walk_nrm;skip)
 (refine Goes.step rfl (fun _ hq=> ?_);obtain ⟨d,rfl⟩:=hq;simp only [at2];rw [stepG_region_end];simp only [goes_go];refine ⟨df_nil,?_⟩)
 (refine Goes.step rfl (fun _ hq=> ?_);obtain ⟨d,rfl⟩:=hq;simp only [at2];rw [stepG_seq];simp only [goes_go];refine ⟨df_nil,?_⟩)
 (refine Goes.step rfl (fun _ hq=> ?_);obtain ⟨d,rfl⟩:=hq;simp only [at2];rw [stepG_region];simp only [goes_go,List.size_toArray,List.length_cons,List.length_nil,Nat.zero_add];(try simp only [Nat.reduceAdd]);simp only [List.range,List.range.loop];refine ⟨df_nil,?_⟩)
 (refine Goes.step rfl (fun _ hq=> ?_);obtain ⟨d,rfl⟩:=hq;simp only [at2];rw [loads (w:=(Wa3 w n na pa nl nc pl pc).at d) rfl rfl rfl Tryz.isAgg3 rfl (c3 w n na pa nl nc pl pc)];simp only [goes_go];refine ⟨df_cell rfl (hno _ (by simp)) (by rw [sz3];simp),?_⟩;walk_nrm;skip)
 (refine Goes.step rfl (fun _ hq=> ?_);obtain ⟨d,rfl⟩:=hq;simp only [at2];rw [made1 rfl rfl rfl hn rfl rfl];simp only [goes_go,size_at2,alloc_at2];refine ⟨df_alloc,?_⟩;walk_nrm;rw [sz3,show (Wa3 w n na pa nl nc pl pc).alloc (.cells (madeCells #[.slice none 0 0] n) 99)=Wa4 w n na pa nl nc pl pc from rfl])
 (refine Goes.step rfl (fun _ hq=> ?_);obtain ⟨d,rfl⟩:=hq;simp only [at2];rw [alloc1 rfl rfl rfl];simp only [goes_go,size_at2,alloc_at2];refine ⟨df_alloc,?_⟩;walk_nrm;rw [sz4,show (Wa4 w n na pa nl nc pl pc).alloc (.cells #[.slice none 0 0] 104)=Wa5 w n na pa nl nc pl pc from rfl])
 (refine Goes.step rfl (fun _ hq=> ?_);obtain ⟨d,rfl⟩:=hq;simp only [at2];rw [store1 (w:=(Wa5 w n na pa nl nc pl pc).at d) rfl rfl rfl rfl rfl (c5 w n na pa nl nc pl pc).1 (c5 w n na pa nl nc pl pc).2];simp only [goes_go,setCell_at2];refine ⟨df_cell (aside_setCell _ _ _).size (hno _ (by simp)) (by rw [sz5];simp),?_⟩;walk_nrm;rw [show (Wa5 w n na pa nl nc pl pc).setCell ⟨w.heap.size+4,0,none⟩ (.slice (some ⟨w.heap.size+3,0,none⟩) n n)=Wa6 w n na pa nl nc pl pc from rfl])
 (refine Goes.step rfl (fun _ hq=> ?_);obtain ⟨d,rfl⟩:=hq;simp only [at2];rw [stepG_region_end];simp only [goes_go];refine ⟨df_nil,?_⟩)
 (refine Goes.step rfl (fun _ hq=> ?_);obtain ⟨d,rfl⟩:=hq;simp only [at2];rw [stepG_seq];simp only [goes_go];refine ⟨df_nil,?_⟩)
 (refine Goes.step rfl (fun _ hq=> ?_);obtain ⟨d,rfl⟩:=hq;simp only [at2];rw [stepG_region];simp only [goes_go,List.size_toArray,List.length_cons,List.length_nil,Nat.zero_add];(try simp only [Nat.reduceAdd]);simp only [List.range,List.range.loop];refine ⟨df_nil,?_⟩)
 exact Goes.stop (fun w₁ hq=>by obtain ⟨d,rfl⟩:=hq;exact ⟨d,rfl,rfl⟩)
end
end Crw
end Go.Proofs.YtfphigmeppdocaaGreat
namespace Go.Proofs.YtfphigmeppdocaaGreat
namespace Crw
open Go.Conc Go.ConcN Go.RowKit Go.Conc.Lib Go.ConcR.Gen Go.ConcN.Gen
open Go.ConcR (KK wgBlock WgAt stA smA rd wr mk Payload DC0)
noncomputable def codeL:Code:=match codeA with
 | .seq (.seq _ (.block _ (.loop c))) _=>c
 | _=> .skip
noncomputable def codeE:Code:=match codeA with
 | .seq _ c=>c
 | _=> .skip
def slH (N n:Nat) (j:Int) (na pa:Option Addr) (nl nc pl pc:Nat) (x9 x14 x15 x16 x17 x18:Value):Array Value:=#[.slice na nl nc,.slice pa pl pc,.int .i64 n,.pointer (some ⟨N,0,none⟩),.pointer (some ⟨N+1,0,none⟩),.pointer (some ⟨N+2,0,none⟩),.slice none 0 0,.pointer (some ⟨N+4,0,none⟩),.pointer (some ⟨N+5,0,none⟩),x9,.int .i64 n,.slice (some ⟨N+3,0,none⟩) n n,.int .i64 n,.int .i64 j,x14,x15,x16,x17,x18,undef,undef]
section
variable {SB:Nat -> Prop} {w:World} {N n:Nat} {na pa:Option Addr} {nl nc pl pc:Nat} {cs:List Frame}
noncomputable def recH (N n:Nat) (j:Int) (na pa:Option Addr) (nl nc pl pc:Nat) (cs:List Frame) (x9 x14 x15 x16 x17 x18:Value):Goroutine:=
 G (bs.at ⟨slH N n j na pa nl nc pl pc x9 x14 x15 x16 x17 x18,[]⟩ [.code codeL,.inLoop codeL,.inBlock 0,.code codeE]) cs
set_option maxRecDepth 20000 in
theorem walkB (hSB:∀b,SB b -> b<w.heap.size \/ b=w.heap.size+5) (d0:Nat):
   Goes Tryz.prog true AtRel (DF SB) (fun g w' =>∃d,w' =(Wa7 w n na pa nl nc pl pc).at d /\ g=recH w.heap.size n 0 na pa nl nc pl pc cs undef undef undef undef undef undef) 20
     (G (bs.at ⟨(slA w.heap.size n na pa nl nc pl pc).setIfInBounds 8 (.pointer (some ⟨w.heap.size+5,0,none⟩)),[]⟩ [.inRegion opsA [],.code codeA]) cs) ((Wa7 w n na pa nl nc pl pc).at d0):=by
 have hno:¬SB (w.heap.size+2):=fun hs=>by have:=hSB _ hs;omega
 have hc:(Wa7 w n na pa nl nc pl pc).cell? ⟨w.heap.size+2,0,none⟩=some (.int .i64 n):=c7 w n na pa nl nc pl pc
 simp only [slA,opsA,codeA,bodys,Tryz.f52,Option.getD_some]
 walk_nrm
 (refine Goes.step rfl (fun _ hq=> ?_);obtain ⟨d,rfl⟩:=hq;simp only [at2];rw [stepG_region_end];simp only [goes_go];refine ⟨df_nil,?_⟩)
 (refine Goes.step rfl (fun _ hq=> ?_);obtain ⟨d,rfl⟩:=hq;simp only [at2];rw [stepG_seq];simp only [goes_go];refine ⟨df_nil,?_⟩)
 (refine Goes.step rfl (fun _ hq=> ?_);obtain ⟨d,rfl⟩:=hq;simp only [at2];rw [stepG_seq];simp only [goes_go];refine ⟨df_nil,?_⟩)
 (refine Goes.step rfl (fun _ hq=> ?_);obtain ⟨d,rfl⟩:=hq;simp only [at2];rw [stepG_region];simp only [goes_go,List.size_toArray,List.length_cons,List.length_nil,Nat.zero_add];(try simp only [Nat.reduceAdd]);simp only [List.range,List.range.loop];refine ⟨df_nil,?_⟩)
 (refine Goes.step rfl (fun _ hq=> ?_);obtain ⟨d,rfl⟩:=hq;simp only [at2];rw [loads (w:=(Wa7 w n na pa nl nc pl pc).at d) rfl rfl rfl Tryz.isAgg3 rfl hc];simp only [goes_go];refine ⟨df_cell rfl hno (by rw [sz7];simp),?_⟩;walk_nrm)
 (refine Goes.step rfl (fun _ hq=> ?_);obtain ⟨d,rfl⟩:=hq;simp only [at2];rw [vals rfl rfl (v:= .int .i64 0) (by unfold execOp;simp [go_sem]) (by unfold execOp;simp [go_sem])];simp only [goes_go];refine ⟨df_nil,?_⟩;walk_nrm)
 (refine Goes.step rfl (fun _ hq=> ?_);obtain ⟨d,rfl⟩:=hq;simp only [at2];rw [stepG_region_end];simp only [goes_go];refine ⟨df_nil,?_⟩)
 (refine Goes.step rfl (fun _ hq=> ?_);obtain ⟨d,rfl⟩:=hq;simp only [at2];rw [stepG_block];simp only [goes_go];refine ⟨df_nil,?_⟩)
 (refine Goes.step rfl (fun _ hq=> ?_);obtain ⟨d,rfl⟩:=hq;simp only [at2];rw [stepG_loop];simp only [goes_go];refine ⟨df_nil,?_⟩)
 exact Goes.stop (fun w₁ hq=>by obtain ⟨d,rfl⟩:=hq;exact ⟨d,rfl,rfl⟩)
end
noncomputable def recW (N n:Nat) (na pa:Option Addr) (nl nc pl pc:Nat) (cs:List Frame) (x9 x14 x15 x16 x17 x18:Value):Goroutine:=
 match codeE with
 | .seq (.region _ ops _) c=>G (bs.at ⟨(slH N n n na pa nl nc pl pc x9 x14 x15 x16 x17 x18).setIfInBounds 19 (.tuple #[]),[]⟩ [.inRegion ops [],.code c]) cs
 | _=>default
noncomputable def recC (N n:Nat) (na pa:Option Addr) (nl nc pl pc:Nat) (x9 x14 x15 x16 x17 x18:Value):Frame:=
 match codeE with
 | .seq (.region _ ops _) c=>bs.at ⟨slH N n n na pa nl nc pl pc x9 x14 x15 x16 x17 x18,[]⟩ [.inRegion ops [0],.code c]
 | _=>default
section
variable {SB:Nat -> Prop} {N n:Nat} {na pa:Option Addr} {nl nc pl pc:Nat} {cs:List Frame} {x9 x14 x15 x16 x17 x18:Value}
set_option maxRecDepth 100000 in
theorem head0 (w:World) (hF:WgLive lk.tWg (N+5) w):Goes Tryz.prog true (R0 lk.tWg (N+5)) (D0 (N+5)) (AtKd Tryz.prog lk.tWg (N+5) (Anch0 lk (N+5) (recC N n na pa nl nc pl pc x9 (.bool false) x15 x16 x17 x18) cs)) 13 (recH N n n na pa nl nc pl pc cs x9 x14 x15 x16 x17 x18) w:=by
 simp only [recH,recC,slH,codeL,codeE,codeA,bodys,Tryz.f52,Option.getD_some]
 iterate 2 (refine Goes.step rfl (fun _ hq=> ?_);replace hF:=hq hF;clear hq;first | (rw [stepG_seq];simp only [goes_go];refine ⟨d0_nil,?_⟩) | (rw [stepG_region];simp only [goes_go,List.size_toArray,List.length_cons,List.length_nil,Nat.zero_add];(try simp only [Nat.reduceAdd]);simp only [List.range,List.range.loop];refine ⟨d0_nil,?_⟩))
 (refine Goes.step rfl (fun _ hq=> ?_);replace hF:=hq hF;clear hq;rw [vals rfl rfl (v:= .bool false) (by unfold execOp;simp [go_sem,Act.eval]) (by unfold execOp;simp [go_sem,Act.eval])];simp only [goes_go];refine ⟨d0_nil,?_⟩;walk_nrm)
 iterate 2 (refine Goes.step rfl (fun _ hq=> ?_);replace hF:=hq hF;clear hq;first | (rw [stepG_seq];simp only [goes_go];refine ⟨d0_nil,?_⟩) | (rw [stepG_region_end];simp only [goes_go];refine ⟨d0_nil,?_⟩))
 (refine Goes.step rfl (fun _ hq=> ?_);replace hF:=hq hF;clear hq;rw [stepG_cond (t:=false) rfl];simp only [goes_go,Bool.false_eq_true,↓reduceIte];refine ⟨d0_nil,?_⟩)
 (refine Goes.step rfl (fun _ hq=> ?_);replace hF:=hq hF;clear hq;refine goes_exit rfl ?_;refine ⟨d0_nil,?_⟩)
 iterate 2 (refine Goes.step rfl (fun _ hq=> ?_);replace hF:=hq hF;clear hq;first | (rw [stepG_seq];simp only [goes_go];refine ⟨d0_nil,?_⟩) | (rw [stepG_region];simp only [goes_go,List.size_toArray,List.length_cons,List.length_nil,Nat.zero_add];(try simp only [Nat.reduceAdd]);simp only [List.range,List.range.loop];refine ⟨d0_nil,?_⟩))
 have hW:=@waitStart0 lk Tryz.prog (N+5)
 (refine Goes.step rfl (fun _ hq=> ?_);replace hF:=hq hF;clear hq;refine goes_call rfl rfl (by k_ne) rfl Tryz.func78 (nm_wait lk) rfl ⟨d0_nil,?_⟩)
 have h3:=hW (c:=recC N n na pa nl nc pl pc x9 (.bool false) x15 x16 x17 x18) (cs:=cs) lk_lib _ hF
 simp only [recC,slH,codeE,codeA,bodys,Tryz.f52,Option.getD_some,body_wait,waitFn] at h3
 walk_nrmf Tryz.f78
 exact h3
end
end Crw
end Go.Proofs.YtfphigmeppdocaaGreat
namespace Go.Proofs.YtfphigmeppdocaaGreat
namespace Crw
open Go.Conc Go.ConcN Go.RowKit Go.Conc.Lib Go.ConcR.Gen Go.ConcN.Gen
open Go.ConcR (KK wgBlock WgAt stA smA rd wr mk Payload DC0)
theorem goes_imp {P:Program} {main:Bool} {R:World→World→Prop} {D:World→World→Array Event→Prop} {Stop Stop' :Goroutine→World→Prop} (h:∀g w,Stop g w→Stop' g w):∀{n:Nat} {g:Goroutine} {w:World},Goes P main R D Stop n g w→Goes P main R D Stop' n g w
 | 0,_,_,hg=>fun w₁ r=>h _ _ (hg w₁ r)
 | n+1,g,w,hg=>by
   rcases hg with hg | ⟨hs,hg⟩
   · exact .inl fun w₁ r=>h _ _ (hg w₁ r)
   · refine .inr ⟨hs,fun w₁ r=> ?_⟩
     have:=hg w₁ r
     revert this
     cases stepG P main g w₁<;>simp only [GStep.goes,imp_self]
     exact fun ⟨d,x⟩=>⟨d,goes_imp h x⟩
section
variable {P:Program} {ty:TypeId} {Wg:Nat} {A A' :Goroutine→World→Prop} {O O' :Goroutine→Prop}
theorem AtAcq.imp (h:∀g,O g→O' g) (g:Goroutine) (w:World) (x:AtAcq P Wg O g w):AtAcq P Wg O' g w:=let ⟨a,g',b,c⟩:=x;⟨a,g',b,h g' c⟩
theorem AtKe.imp (h:∀g,O g→O' g) (g:Goroutine) (w:World) (x:AtKe P ty Wg O g w):AtKe P ty Wg O' g w:=let ⟨a,g',b,m,c⟩:=x;⟨a,g',b,m,goes_imp (AtAcq.imp h) c⟩
theorem AtW4.imp (h:∀g,O g→O' g) (g:Goroutine) (w:World) (x:AtW4 P ty Wg O g w):AtW4 P ty Wg O' g w:=⟨x.1,fun hw=>let ⟨g',b,m,c⟩:=x.2 hw;⟨g',b,m,goes_imp (AtKe.imp h) c⟩⟩
theorem AtW3.imp (h:∀g,O g→O' g) (g:Goroutine) (w:World) (x:AtW3 P ty Wg O g w):AtW3 P ty Wg O' g w:=⟨x.1,x.2.1,x.2.2.1,fun hw=>let ⟨g',b,m,c⟩:=x.2.2.2 hw;⟨g',b,m,goes_imp (AtW4.imp h) c⟩⟩
theorem AtW2.imp (hA:∀g w,A g w→A' g w) (h:∀g,O g→O' g) {vs:Nat} (g:Goroutine) (w:World) (x:AtW2 P ty Wg A O vs g w):AtW2 P ty Wg A' O' vs g w:=
 ⟨x.1,fun v hv hw=>⟨fun e=>let ⟨g',b,m,c⟩:=(x.2 v hv hw).1 e;⟨g',b,m,goes_imp (AtW3.imp h) c⟩,fun e=>let ⟨g',b,m,c⟩:=(x.2 v hv hw).2 e;⟨g',b,m,goes_imp hA c⟩⟩⟩
theorem AtW1.imp (hA:∀g w,A g w→A' g w) (h:∀g,O g→O' g) (g:Goroutine) (w:World) (x:AtW1 P ty Wg A O g w):AtW1 P ty Wg A' O' g w:=
 ⟨x.1,fun v hv hw=>let ⟨g',b,c,d⟩:=x.2 v hv hw;⟨g',b,fun e=>let ⟨m,z⟩:=c e;⟨m,goes_imp (AtKe.imp h) z⟩,fun e=>let ⟨m,z⟩:=d e;⟨m,goes_imp (AtW2.imp hA h) z⟩⟩⟩
theorem AtKd.imp (hA:∀g w,A g w→A' g w) (g:Goroutine) (w:World) (x:AtKd P ty Wg A g w):AtKd P ty Wg A' g w:=let ⟨a,g',b,m,c⟩:=x;⟨a,g',b,m,goes_imp hA c⟩
end
theorem mixedw:Tryz.prog.follows .mixedOrders=true:=by kernel_rfl
theorem draww {b:Frame} {a:Act} {k:List Item} {cs:List Frame} {w:World} {id:Nat} {ops:Array Oper}:∃t,stepG Tryz.prog false (G (b.at a (.code (.region id ops true)::k)) cs) w= .go (G (b.at a (.inRegion ops (Region.linearise.go .any ops ops.size t (Array.replicate ops.size false) [])::k)) cs) (w.at (w.drawn+1)) #[]:=by
 refine ⟨w.tape w.drawn (.order b.fn id),?_⟩
 have hsch:∀t,Region.schedule (Tryz.prog.follows .mixedOrders) ops t=Region.linearise.go .any ops ops.size t (Array.replicate ops.size false) []:=fun t=>by
   simp only [Region.schedule,mixedw,Bool.true_or,if_true]
   rfl
 simp [G,stepG,stepG.exec,Frame.at,choose,Sem.run,Question.forced,Question.cut,hsch,World.at]
theorem dp_at {SB:Nat→Prop} {N:Nat} {w:World} {d:Nat}:Dp SB N w (w.at d) #[]:=⟨⟨d,rfl⟩,by simp⟩
theorem bornPre {SB:Nat→Prop} {N:Nat} {news paths:Value} (hSB:∀b,SB b→b<N∨b=N+5) (w:World) (hk:Kw N news paths w):
   Goes Tryz.prog false (Rn N) (Dp SB N) (AtCall N news paths) 15 (born Tryz.prog (callw N)) w:=by
 refine Goes.step rfl fun w₁ r₁=> ?_
 replace hk:=hk.rely r₁
 rw [bornw,goes_go]
 refine ⟨dp_nil,?_⟩
 have e1 : bodyw = .seq (.region 0 #[{ dst := none, op := .defer { callee := .value (.func 76), args := #[.tmp 0], argTypes := #[141] }, type := 0, pos := (match bodyw with | .seq (.region _ ops _) _ => (ops[0]?.map (·.pos)).getD "" | _ => ""), after := #[], guard := none }] false) (.region 1 opsw true) := rfl
 rw [e1]
 refine Goes.step rfl fun w₂ r₂=> ?_
 replace hk:=hk.rely r₂
 rw [stepG_seq,goes_go]
 refine ⟨dp_nil,Goes.step rfl fun w₃ r₃=> ?_⟩
 replace hk:=hk.rely r₃
 rw [stepG_region]
 simp only [goes_go,List.size_toArray,List.length_cons,List.length_nil,Nat.zero_add,List.range,List.range.loop]
 refine ⟨dp_nil,Goes.step rfl fun w₄ r₄=> ?_⟩
 replace hk:=hk.rely r₄
 rw [stepG_defer rfl rfl (by decide) rfl]
 simp only [goes_go]
 refine ⟨dp_nil,?_⟩
 walk_nrm
 refine Goes.step rfl fun w₅ r₅=> ?_
 replace hk:=hk.rely r₅
 rw [stepG_region_end,goes_go]
 refine ⟨dp_nil,Goes.step rfl fun w₆ r₆=> ?_⟩
 replace hk:=hk.rely r₆
 obtain ⟨t,ht⟩:=draww (b:=bw) (a:=(⟨#[.pointer (some ⟨N+5,0,none⟩),.pointer (some ⟨N,0,none⟩),.pointer (some ⟨N+1,0,none⟩),.pointer (some ⟨N+6,0,none⟩),.pointer (some ⟨N+2,0,none⟩),.pointer (some ⟨N+4,0,none⟩),undef,undef,undef,undef,undef,undef,undef,undef],dsw N⟩:Act)) (k:=[]) (cs:=[bot]) (w:=w₆) (id:=1) (ops:=opsw)
 have hst:∀K:Goroutine→World→Array Event→Prop,K (G (bw.at (⟨#[.pointer (some ⟨N+5,0,none⟩),.pointer (some ⟨N,0,none⟩),.pointer (some ⟨N+1,0,none⟩),.pointer (some ⟨N+6,0,none⟩),.pointer (some ⟨N+2,0,none⟩),.pointer (some ⟨N+4,0,none⟩),undef,undef,undef,undef,undef,undef,undef,undef],dsw N⟩:Act) (.inRegion opsw (Region.linearise.go .any opsw opsw.size t (Array.replicate opsw.size false) [])::[])) [bot]) (w₆.at (w₆.drawn+1)) #[]→
     (stepG Tryz.prog false (G (bw.at (⟨#[.pointer (some ⟨N+5,0,none⟩),.pointer (some ⟨N,0,none⟩),.pointer (some ⟨N+1,0,none⟩),.pointer (some ⟨N+6,0,none⟩),.pointer (some ⟨N+2,0,none⟩),.pointer (some ⟨N+4,0,none⟩),undef,undef,undef,undef,undef,undef,undef,undef],dsw N⟩:Act) [.code (.region 1 opsw true)]) [bot]) w₆).goes K:=fun K hK=>by
   rw [ht,goes_go];exact hK
 change (stepG Tryz.prog false (G (bw.at (⟨#[.pointer (some ⟨N+5,0,none⟩),.pointer (some ⟨N,0,none⟩),.pointer (some ⟨N+1,0,none⟩),.pointer (some ⟨N+6,0,none⟩),.pointer (some ⟨N+2,0,none⟩),.pointer (some ⟨N+4,0,none⟩),undef,undef,undef,undef,undef,undef,undef,undef],dsw N⟩:Act) [.code (.region 1 opsw true)]) [bot]) w₆).goes _
 apply hst
 refine ⟨dp_at,?_⟩
 have hk7:Kw N news paths (w₆.at (w₆.drawn+1)):=⟨hk.cN,hk.cP,hk.cW,hk.cB,hk.cI,hk.live,hk.pN⟩
 refine regPre hSB 9 t false false false false false false _ _ rfl hk7 ⟨rfl,rfl,fun k hk=> ?_,fun k hk hl=> ?_⟩
 · have hc:k=0∨k=1∨k=2∨k=3∨k=4∨k=5:=by omega
   rcases hc with rfl | rfl | rfl | rfl | rfl | rfl<;>rfl
 · have hc:k=0∨k=1∨k=2∨k=3∨k=4∨k=5:=by omega
   rcases hc with rfl | rfl | rfl | rfl | rfl | rfl<;>simp [lis] at hl
end Crw
end Go.Proofs.YtfphigmeppdocaaGreat
namespace Go.Proofs.YtfphigmeppdocaaGreat
namespace Crw
open Go.Conc Go.ConcN Go.RowKit Go.Conc.Lib Go.ConcR.Gen Go.ConcN.Gen Lo
open Go.ConcR (KK wgBlock WgAt stA smA rd wr mk Payload DC0)
section
variable {S:Program} {ok:FuncId -> Bool} {sp:FuncId} {SB:Nat -> Prop} {SBw:SBs} {N:Nat} {news paths:Value} {s0:World}
theorem pay_of {w w₁:World} (h:w₁.heap[N]? =w.heap[N]?) (hp:PayAt N 1 w):PayAt N 1 w₁:=let ⟨cs,h1,h2⟩:=hp;⟨cs,h.trans h1,h2⟩
theorem SitW.go (W:WHyp S ok sp SB SBw N news paths s0) {x:XX} {g:Goroutine} {w:World} (h:SitW S ok sp SB SBw N news paths s0 x g w):
   ∃g' w' es,stepG Tryz.prog false g w= .go g' w' es /\ WEff (N+5) w w' /\ (∀e∈es,EvO SB (N+5) w'.heap.size e) /\ ((∃x',XX.lt S x' x /\ SitW S ok sp SB SBw N news paths s0 x' g' w') \/
     ∃v m,FinW S SBw N news paths s0 v w' /\ Goes Tryz.prog false (RW lk.tWg (N+5) N 1 (N+6) 0) (DWs (N+5) noP noP N 1 1) (AtR0 Tryz.prog lk.tWg (N+5) N 1 (N+6) 1 v) m g' w'):=by
 cases x with
 | pre k x=>
   obtain ⟨rfl,h2,h3,hg⟩:=h
   rcases Goes.cases hg with hstop | ⟨k',rfl,hstep⟩
   · obtain ⟨hk,T,l0,l1,fuel,t,hfu,hs,rfl⟩:=hstop w (Rn.refl _ w)
     have hst:=callw_step (rest:=Region.linearise.go .any opsw fuel t (lis l0 l1 true true true true true false false) []) hs (by simp [lis]) (by simp [lis]) (by simp [lis]) (by simp [lis]) w
     rw [enter_same W.F W.known W.nsp] at hst
     refine ⟨_,w,#[],hst,weff_at _ w w.drawn,by simp,.inl ⟨.sim (fs0w S news paths,s0),rfl,W.bar,.refl,W.all,fun f hf=> ?_,⟨_,[],_,rfl,rfl,fun v w' u hv hk' hc hz=> ?_⟩,h2,h3⟩⟩
     · obtain rfl:f=Frame.enter S 77 (argsw news paths) .normal:=by simpa [fs0w] using hf
       exact ⟨W.known,W.nsp⟩
     · obtain ⟨o,ho,_,_,hd,_⟩:=op6w
       refine ⟨fuel+2,?_⟩
       rw [Frame.finish_at,ho]
       have hT:(⟨T,dsw N⟩:Act).put ((some o).bind (·.dst)) v=⟨T.setIfInBounds 12 v,dsw N⟩:=by simp [Act.put,hd]
       rw [hT]
       refine regPost W.hSB hv hc hz fuel t l0 l1 false false _ w' (by simp;omega) hk' (by simp) (hs.put (by omega) (fun k' hk6 hl=> .inr ⟨by omega,?_⟩) (by omega)) (by rw [Array.getElem?_setIfInBounds_self_of_lt (by rw [hs.size];omega)]) (by simp) (by simp)
       have hc:k' =0 \/ k' =1 \/ k' =2 \/ k' =3 \/ k' =4 \/ k' =5:=by omega
       rcases hc with rfl | rfl | rfl | rfl | rfl | rfl
       · simpa [lis] using hl
       · simpa [lis] using hl
       · simp [lis]
       · simp [lis]
       · simp [lis]
       · simp [lis]
   · obtain ⟨g',w',es,hgo,⟨⟨d,rfl⟩,hev⟩,hg'⟩:=hstep w (Rn.refl _ w)
     exact ⟨g',_,es,hgo,weff_at _ w d,hev,.inl ⟨.pre k' (fs0w S news paths,s0),⟨by omega,rfl⟩,rfl,⟨h2.size,h2.same,h2.bad,h2.old⟩,h3.of (fun _ _ _ _ _=>rfl) h3.live,hg'⟩⟩
 | sim x=>
   obtain ⟨g',w',es,hgo,hE,hev,hn⟩:=SimW.go W h
   rcases hn with ⟨x',hlt,h'⟩ | ⟨k,h'⟩
   · exact ⟨g',w',es,hgo,hE,hev,.inl ⟨.sim x',hlt,h'⟩⟩
   · exact ⟨g',w',es,hgo,hE,hev,.inl ⟨.post k,trivial,h'⟩⟩
 | post k=>
   obtain ⟨v,s',wf,h1,h2,h3,h4,hg⟩:=h
   rcases Goes.cases hg with hstop | ⟨k',rfl,hstep⟩
   · obtain ⟨_,ho3,_,g',hgo,m,hm⟩:=hstop w (Rn.refl _ w)
     exact ⟨g',w,#[],hgo,weff_at _ w w.drawn,by simp,.inr ⟨news,m,⟨v,s',wf,h1,fun b a c _=>h2 b a c,h3,ho3,h4⟩,hm⟩⟩
   · obtain ⟨g',w',es,hgo,⟨hE,hsz,hb,hev⟩,hg'⟩:=hstep w (Rn.refl _ w)
     exact ⟨g',w',es,hgo,hE,hev,.inl ⟨.post k',by show k' <k' +1;omega,v,s',wf,h1,fun b a c=>(hb b a).trans (h2 b a c),hsz.trans h3,pay_of (hb N (by omega)) h4,hg'⟩⟩
noncomputable def wspec (W:WHyp S ok sp SB SBw N news paths s0):WSpec Tryz.prog SB lk.tWg (N+5) N (N+6) where
 X:=XX
 lt:=XX.lt S
 Sit:=SitW S ok sp SB SBw N news paths s0
 Fin:=FinW S SBw N news paths s0
 acc:=by
   intro x g w h
   cases x with
   | pre k x=>
     obtain ⟨rfl,_⟩:=h
     exact acc_pre (acc_bar (retQ_ok S _) W.bar) k
   | sim x=>exact acc_sim (acc_bar (retQ_ok S _) h.bar)
   | post k=>exact acc_post S k
 run:=by
   intro x g w h
   cases x with
   | pre k x=>exact Goes.running (fun g w h=>by obtain ⟨_,T,l0,l1,fuel,t,_,_,rfl⟩:=h;rfl) w (Rn.refl _ w) h.2.2.2
   | sim x=>
     obtain ⟨f,cs,c,_,rfl,_⟩:=h.top
     rfl
   | post k=>
     obtain ⟨v,s',wf,_,_,_,_,hg⟩:=h
     exact Goes.running (fun g w h=>h.1) w (Rn.refl _ w) hg
 stay:=by
   intro x g w w₁ h hs hr
   have hrn:=rn_of hs hr
   cases x with
   | pre k x=>
     obtain ⟨h1,h2,h3,hg⟩:=h
     exact ⟨h1,wr_stay h2 hs.same hs.size hr.live h3.live,h3.rely hrn,Goes.rely (Rn.tr _) hg hrn⟩
   | sim x=>exact ⟨h.bar,h.rc,h.all,h.fn,h.top,wr_stay h.wr hs.same hs.size hr.live h.kw.live,h.kw.rely hrn⟩
   | post k=>
     obtain ⟨v,s',wf,h1,h2,h3,h4,hg⟩:=h
     exact ⟨v,s',wf,h1,fun b a c=>(hs.same b c).trans (h2 b a c),hs.size.trans h3,pay_of (hs.same N (by omega)) h4,Goes.rely (Rn.tr _) hg hrn⟩
 fins:=fun ⟨v,s',wf,h1,h2,h3,h4,h5⟩ hs=>⟨v,s',wf,h1,fun b a c d=>(hs.same b c d).trans (h2 b a c d),hs.size.trans h3,(hs.same _ (by omega) (by omega)).trans h4,hs.pay h5⟩
 go:=fun h _=>SitW.go W h
end
end Crw
end Go.Proofs.YtfphigmeppdocaaGreat
namespace Go.Proofs.YtfphigmeppdocaaGreat
namespace Crw
open Go.Conc Go.ConcN Go.RowKit Go.Conc.Lib Go.ConcR.Gen Go.ConcN.Gen Lo
open Go.ConcR (KK wgBlock WgAt stA smA rd wr mk Payload DC0)
theorem run_mf (P:Program) (fn:Fn) (x y:Array Value) (w:World):(Instr.makeFunc fn x y).run P w= .ok (.func fn x y) w:=rfl
theorem ev_mf (P:Program) (fn:Fn) (x y:Array Value) (w:World) (es:Array Event):(Instr.makeFunc fn x y).events P w es=es:=rfl
abbrev oz:Obj:= .cells #[.int .i64 0] 3
abbrev oj (j:Nat):Obj:= .cells #[.int .i64 j] 3
abbrev vj (j:Nat):Value:= .int .i64 j
section
variable (N n:Nat) (na pa:Option Addr) (nl nc pl pc:Nat) (cs:List Frame)
def AnchS (g:Goroutine) (w:World):Prop:=∃x9 x15 x16 x17 x18,Anch0 lk (N+5) (recC N n na pa nl nc pl pc x9 (.bool false) x15 x16 x17 x18) cs g w
def OutS (SB:Nat -> Prop) (g:Goroutine):Prop:=∃x9 x15 x16 x17 x18,OutW lk Tryz.prog SB (N+5) (recW N n na pa nl nc pl pc cs x9 (.bool false) x15 x16 x17 x18) g
theorem anchS_run (g:Goroutine) (w:World) (h:AnchS N n na pa nl nc pl pc cs g w):g.status= .running:=by
 obtain ⟨_,_,_,_,_,T,rfl,_⟩:=h
 rfl
theorem anchS_goes {SB:Nat -> Prop} (g:Goroutine) (w:World) (h:AnchS N n na pa nl nc pl pc cs g w):∃m,Goes Tryz.prog true (R0 lk.tWg (N+5)) (D0 (N+5)) (AtW1 Tryz.prog lk.tWg (N+5) (AnchS N n na pa nl nc pl pc cs) (OutS N n na pa nl nc pl pc cs SB)) m g w:=by
 obtain ⟨x9,x15,x16,x17,x18,h⟩:=h
 have e:recC N n na pa nl nc pl pc x9 (.bool false) x15 x16 x17 x18=bs.at ⟨slH N n n na pa nl nc pl pc x9 (.bool false) x15 x16 x17 x18,[]⟩ (.inRegion (match codeE with | .seq (.region _ ops _) _=>ops | _=>#[]) (0::[])::[.code (match codeE with | .seq _ c=>c | _=> .skip)]):=rfl
 rw [e] at h
 obtain ⟨m,hm⟩:=waitRound0 (SB:=SB) lk_lib g w h
 refine ⟨m,goes_imp (AtW1.imp (fun g w h=>⟨x9,x15,x16,x17,x18,by rw [e];exact h⟩) (fun g h=>⟨x9,x15,x16,x17,x18,?_⟩)) hm⟩
 have e2:recW N n na pa nl nc pl pc cs x9 (.bool false) x15 x16 x17 x18=G (bs.at ((⟨slH N n n na pa nl nc pl pc x9 (.bool false) x15 x16 x17 x18,[]⟩:Act).put (((match codeE with | .seq (.region _ ops _) _=>ops | _=>#[])[0]?).bind (·.dst)) (.tuple #[])) (.inRegion (match codeE with | .seq (.region _ ops _) _=>ops | _=>#[]) []::[.code (match codeE with | .seq _ c=>c | _=> .skip)])) cs:=rfl
 rw [e2]
 exact h
end
section
variable {S:Program} {ok:FuncId -> Bool} {sp:FuncId} {SB:Nat -> Prop} {SBw:SBs} {N:Nat} {na pa:Option Addr} {nl nc pl pc:Nat} {s0:World} {cs:List Frame} {w0:World}
theorem spawn1 {a:Act} {w:World} {ops:Array Oper} {o:Oper} {kk:List Item} {cs:List Frame} {N:Nat} (ha:a.eval (.tmp 17)= .func (.func 75) #[] #[.pointer (some ⟨N+5,0,none⟩),.pointer (some ⟨N,0,none⟩),.pointer (some ⟨N+1,0,none⟩),.pointer (some ⟨N+6,0,none⟩),.pointer (some ⟨N+2,0,none⟩),.pointer (some ⟨N+4,0,none⟩)])
   (ho:ops[1]? =some o) (hg:o.guard=none) (hd:o.dst=none) (hop:o.op= .go {callee:= .value (.tmp 17),args:=#[],argTypes:=#[] }):
   stepG Tryz.prog true (G (bs.at a (.inRegion ops (1::[])::kk)) cs) w= .spawn (G (bs.at a (.inRegion ops []::kk)) cs) (born Tryz.prog (callw N)) w #[]:=by
 have hr:(execOp a.eval o).run Tryz.prog w= .ok (.spawn (callw N)) w:=by
   unfold execOp
   simp [hop,resolve,Deferred.ofValue,ha,callw]
 have he:(execOp a.eval o).events Tryz.prog w #[]=#[]:=by
   unfold execOp
   simp [hop,resolve,Deferred.ofValue,ha]
 rw [stepG_spawn (d:=callw N) (f:= .func 75) (c:=#[.pointer (some ⟨N+5,0,none⟩),.pointer (some ⟨N,0,none⟩),.pointer (some ⟨N+1,0,none⟩),.pointer (some ⟨N+6,0,none⟩),.pointer (some ⟨N+2,0,none⟩),.pointer (some ⟨N+4,0,none⟩)]) ho (by simp [Region.wanted,hg]) (by decide) hr rfl]
 unfold listed
 rw [he,seen_none]
 simp [Act.put,hd]
theorem nb_cell {w:World} {nb:Nat} (h:w.heap[nb]? =some oz):w.cell? ⟨nb,0,none⟩=some (.int .i64 0) /\ w.frozen? ⟨nb,0,none⟩=false:=by
 simp only [World.cell?,World.frozen?]
 rw [h]
 exact ⟨rfl,rfl⟩
theorem nb_put {w:World} {nb j:Nat} (h:w.heap[nb]? =some oz):(w.setCell ⟨nb,0,none⟩ (vj j)).heap[nb]? =some (oj j):=by
 rw [setCell_eq_setRow w nb 0 _ _ (0,0) _ h,setRow_heap w nb _ _ _ _ h]
 simp
structure Base (N:Nat) (na pa:Option Addr) (nl nc pl pc:Nat) (w0:World):Prop where
 b0:w0.heap[N]? =some (.cells #[.slice na nl nc] 99)
 b1:w0.heap[N+1]? =some (.cells #[.slice pa pl pc] 101)
 b2:w0.heap[N+2]? =some (.cells #[.int .i64 1] 3)
 b4:w0.heap[N+4]? =some (.cells #[.slice (some ⟨N+3,0,none⟩) 1 1] 104)
theorem kw_at (B:Base N na pa nl nc pl pc w0) {w:World} (h1:w.heap[N+6]? =some (oj 0)) (h2:∀b,b<N+6 -> b≠N+5 -> w.heap[b]? =w0.heap[b]?) (h4:WgLive lk.tWg (N+5) w):Kw N (.slice na nl nc) (.slice pa pl pc) w:=by
 have hc:∀b c t,w.heap[b]? =some (.cells c t) -> w.cell? ⟨b,0,none⟩=c[0]? :=fun b c t h=>by simp only [World.cell?];rw [h];rfl
 have hN:=(h2 N (by omega) (by omega)).trans B.b0
 exact ⟨by rw [hc N _ _ hN];rfl,by rw [hc _ _ _ ((h2 (N+1) (by omega) (by omega)).trans B.b1)];rfl,by rw [hc _ _ _ ((h2 (N+2) (by omega) (by omega)).trans B.b2)];rfl,by rw [hc _ _ _ ((h2 (N+4) (by omega) (by omega)).trans B.b4)];rfl,by rw [hc _ _ _ h1];rfl,h4,⟨_,hN,rfl⟩⟩
set_option maxRecDepth 100000 in
set_option maxHeartbeats 4000000 in
theorem headR (W:WHyp S ok sp SB SBw N (.slice na nl nc) (.slice pa pl pc) s0) (B:Base N na pa nl nc pl pc w0) (hρ:∀w:World,w.heap[N+6]? =some (oj 0) -> (∀b,b<N+6 -> b≠N+5 -> w.heap[b]? =w0.heap[b]?) -> w.heap.size=N+6+1 -> WgLive lk.tWg (N+5) w -> WR (SB6 SBw N) s0 w):
   ∀x9 x14 x15 x16 x17 x18,∃m,∀w,WgLive lk.tWg (N+5) w -> Goes Tryz.prog true (R0 lk.tWg (N+5)) (D0 (N+5)) (AtNew Tryz.prog lk.tWg (N+5) (wspec W) w0 oz (oj 0) (vj 0) (Starts Tryz.prog lk.tWg (N+5) (AnchS N 1 na pa nl nc pl pc cs))) m (recH N 1 (0:Int) na pa nl nc pl pc cs x9 x14 x15 x16 x17 x18) w:=by
 intro x9 x14 x15 x16 x17 x18
 have hlt:(0:Int)<(1:Int):=by omega
 have hwr:IntKind.i64.wrap 1=1:=by rw [IntKind.wrap_i64];omega
 refine ⟨30,fun w hF=> ?_⟩
 simp only [recH,slH,codeL,codeE,codeA,bodys,Tryz.f52,Option.getD_some] at ⊢
 iterate 2 (refine Goes.step rfl (fun _ hq=> ?_);replace hF:=hq hF;clear hq;first | (rw [stepG_seq];simp only [goes_go];refine ⟨d0_nil,?_⟩) | (rw [stepG_region];simp only [goes_go,List.size_toArray,List.length_cons,List.length_nil,Nat.zero_add];(try simp only [Nat.reduceAdd]);simp only [List.range,List.range.loop];refine ⟨d0_nil,?_⟩))
 (refine Goes.step rfl (fun _ hq=> ?_);replace hF:=hq hF;clear hq;rw [vals rfl rfl (v:= .bool true) (by unfold execOp;simp [go_sem,Act.eval,hlt]) (by unfold execOp;simp [go_sem,Act.eval,hlt])];simp only [goes_go];refine ⟨d0_nil,?_⟩;walk_nrm)
 iterate 2 (refine Goes.step rfl (fun _ hq=> ?_);replace hF:=hq hF;clear hq;first | (rw [stepG_seq];simp only [goes_go];refine ⟨d0_nil,?_⟩) | (rw [stepG_region_end];simp only [goes_go];refine ⟨d0_nil,?_⟩))
 (refine Goes.step rfl (fun _ hq=> ?_);replace hF:=hq hF;clear hq;rw [stepG_cond (t:=true) rfl];simp only [goes_go,↓reduceIte];refine ⟨d0_nil,?_⟩)
 iterate 2 (refine Goes.step rfl (fun _ hq=> ?_);replace hF:=hq hF;clear hq;first | (rw [stepG_seq];simp only [goes_go];refine ⟨d0_nil,?_⟩) | (rw [stepG_skip];simp only [goes_go];refine ⟨d0_nil,?_⟩))
 (refine Goes.step rfl (fun _ hq=> ?_);replace hF:=hq hF;clear hq;rw [stepG_block];simp only [goes_go];refine ⟨d0_nil,?_⟩)
 iterate 2 (refine Goes.step rfl (fun _ hq=> ?_);replace hF:=hq hF;clear hq;first | (rw [stepG_seq];simp only [goes_go];refine ⟨d0_nil,?_⟩) | (rw [stepG_region];simp only [goes_go,List.size_toArray,List.length_cons,List.length_nil,Nat.zero_add];(try simp only [Nat.reduceAdd]);simp only [List.range,List.range.loop];refine ⟨d0_nil,?_⟩))
 (refine Goes.step rfl (fun _ hq=> ?_);replace hF:=hq hF;clear hq;rw [vals rfl rfl (v:= .int .i64 0) (by unfold execOp;simp [go_sem,Act.eval]) (by unfold execOp;simp [go_sem,Act.eval])];simp only [goes_go];refine ⟨d0_nil,?_⟩;walk_nrm)
 refine Goes.stop (fun w₁ hq=> ?_)
 replace hF:=hq hF
 clear hq
 refine ⟨rfl,fun hsz=>⟨_,alloc2 rfl rfl rfl,1,?_⟩⟩
 replace hF:WgLive lk.tWg (N+5) (w₁.alloc oz):=by
   obtain ⟨st,sm,h⟩:=hF
   exact ⟨st,sm,h.of_block (heap_old _ _ (by omega))⟩
 rw [hsz]
 walk_nrm
 refine Goes.stop (fun w₂ h₂=> ?_)
 replace hF:=h₂ hF
 clear h₂
 refine ⟨rfl,fun ho=>⟨_,store2 (m:=(0:Int)) rfl rfl rfl rfl rfl (nb_cell ho).1 (nb_cell ho).2,nb_put ho,20,?_⟩⟩
 replace hF:WgLive lk.tWg (N+5) (w₂.setCell ⟨N+6,0,none⟩ (vj 0)):=by
   obtain ⟨st,sm,h⟩:=hF
   exact ⟨st,sm,h.of_block ((aside_setCell _ _ _).block _ (by simp))⟩
 clear ho
 walk_nrm
 iterate 3 (refine Goes.step rfl (fun _ hq=> ?_);replace hF:=hq hF;clear hq;first | (rw [stepG_seq];simp only [goes_go];refine ⟨d0_nil,?_⟩) | (rw [stepG_region_end];simp only [goes_go];refine ⟨d0_nil,?_⟩) | (rw [stepG_region];simp only [goes_go,List.size_toArray,List.length_cons,List.length_nil,Nat.zero_add];(try simp only [Nat.reduceAdd]);simp only [List.range,List.range.loop];refine ⟨d0_nil,?_⟩))
 have hA:=@addPos0 _ lk Tryz.prog SB (N+5) N (N+6) (wspec W) w0 (oj 0)
 (refine Goes.step rfl (fun _ hq=> ?_);replace hF:=hq hF;clear hq;refine goes_call rfl rfl (by k_ne) rfl Tryz.func74 (nm_add lk) rfl ⟨d0_nil,?_⟩)
 simp only [body_add,addFn,Option.getD_some] at hA
 walk_nrmf Tryz.f74
 refine Goes.mono (n:=12) (hA (mT:=3) lk_lib (fun w₃ hF=> ?_) _ hF) (by omega)
 walk_nrm
 iterate 2 (refine Goes.step rfl (fun _ hq=> ?_);replace hF:=hq hF;clear hq;first | (rw [stepG_region_end];simp only [goes_go];refine ⟨d0_nil,?_⟩) | (rw [stepG_region];simp only [goes_go,List.size_toArray,List.length_cons,List.length_nil,Nat.zero_add];(try simp only [Nat.reduceAdd]);simp only [List.range,List.range.loop];refine ⟨d0_nil,?_⟩))
 (refine Goes.step rfl (fun _ hq=> ?_);replace hF:=hq hF;clear hq;rw [vals rfl rfl (v:= .func (.func 75) #[] #[.pointer (some ⟨N+5,0,none⟩),.pointer (some ⟨N,0,none⟩),.pointer (some ⟨N+1,0,none⟩),.pointer (some ⟨N+6,0,none⟩),.pointer (some ⟨N+2,0,none⟩),.pointer (some ⟨N+4,0,none⟩)]) (by unfold execOp;simp [go_sem,Act.eval,run_mf]) (by unfold execOp;simp [go_sem,Act.eval,ev_mf])];simp only [goes_go];refine ⟨d0_nil,?_⟩;walk_nrm)
 refine Goes.stop (fun w₄ h₄=> ?_)
 replace hF:=h₄ hF
 clear h₄
 have hev:∀a:Act,a.eval (.tmp 17)= .func (.func 75) #[] #[.pointer (some ⟨N+5,0,none⟩),.pointer (some ⟨N,0,none⟩),.pointer (some ⟨N+1,0,none⟩),.pointer (some ⟨N+6,0,none⟩),.pointer (some ⟨N+2,0,none⟩),.pointer (some ⟨N+4,0,none⟩)] ->
     ∀(ops:Array Oper) (o:Oper),ops[1]? =some o -> o.guard=none -> o.dst=none -> o.op= .go {callee:= .value (.tmp 17),args:=#[],argTypes:=#[] } -> ∀kk,stepG Tryz.prog true (G (bs.at a (.inRegion ops (1::[])::kk)) cs) w₄= .spawn (G (bs.at a (.inRegion ops []::kk)) cs) (born Tryz.prog (callw N)) w₄ #[]:=fun a ha ops o ho hg hd hop kk=>spawn1 ha ho hg hd hop
 refine ⟨rfl,_,_,hev _ rfl _ _ rfl rfl rfl rfl _,?_,fun h1 h2 h3 h4=> ?_⟩
 · refine ⟨13+7,?_⟩
   have hm:=head0 (N:=N) (n:=1) (na:=na) (pa:=pa) (nl:=nl) (nc:=nc) (pl:=pl) (pc:=pc) (cs:=cs) (x9:= .pointer (some ⟨N+6,0,none⟩)) (x14:= .bool true) (x15:= .int .i64 0) (x16:= .tuple #[]) (x17:= .func (.func 75) #[] #[.pointer (some ⟨N+5,0,none⟩),.pointer (some ⟨N,0,none⟩),.pointer (some ⟨N+1,0,none⟩),.pointer (some ⟨N+6,0,none⟩),.pointer (some ⟨N+2,0,none⟩),.pointer (some ⟨N+4,0,none⟩)]) (x18:= .int .i64 1)
   simp only [recH,slH,codeL,codeE,codeA,bodys,Tryz.f52,Option.getD_some] at hm
   (refine Goes.step rfl (fun _ hq=> ?_);replace hF:=hq hF;clear hq;rw [stepG_region_end];simp only [goes_go];refine ⟨d0_nil,?_⟩)
   (refine Goes.step rfl (fun _ hq=> ?_);replace hF:=hq hF;clear hq;rw [stepG_inBlock];simp only [goes_go];refine ⟨d0_nil,?_⟩)
   (refine Goes.step rfl (fun _ hq=> ?_);replace hF:=hq hF;clear hq;rw [stepG_region];simp only [goes_go,List.size_toArray,List.length_cons,List.length_nil,Nat.zero_add];(try simp only [Nat.reduceAdd]);simp only [List.range,List.range.loop];refine ⟨d0_nil,?_⟩)
   (refine Goes.step rfl (fun _ hq=> ?_);replace hF:=hq hF;clear hq;rw [vals rfl rfl (v:= .int .i64 1) (by unfold execOp;simp [go_sem,Act.eval,hwr]) (by unfold execOp;simp [go_sem,Act.eval])];simp only [goes_go];refine ⟨d0_nil,?_⟩;walk_nrm)
   (refine Goes.step rfl (fun _ hq=> ?_);replace hF:=hq hF;clear hq;rw [vals rfl rfl (v:= .int .i64 1) (by unfold execOp;simp [go_sem,Act.eval]) (by unfold execOp;simp [go_sem,Act.eval])];simp only [goes_go];refine ⟨d0_nil,?_⟩;walk_nrm)
   (refine Goes.step rfl (fun _ hq=> ?_);replace hF:=hq hF;clear hq;rw [stepG_region_end];simp only [goes_go];refine ⟨d0_nil,?_⟩)
   (refine Goes.step rfl (fun _ hq=> ?_);replace hF:=hq hF;clear hq;rw [stepG_inLoop];simp only [goes_go];refine ⟨d0_nil,?_⟩)
   exact goes_imp (AtKd.imp fun g w h=>⟨_,_,_,_,_,h⟩) (hm _ hF)
 · exact ⟨.pre 15 (fs0w S (.slice na nl nc) (.slice pa pl pc),s0),rfl,hρ _ h1 h2 h3 h4,kw_at B h1 h2 h4,bornPre W.hSB _ (kw_at B h1 h2 h4)⟩
end
end Crw
end Go.Proofs.YtfphigmeppdocaaGreat
namespace Go.Proofs.YtfphigmeppdocaaGreat
namespace Crw
open Go.Conc Go.ConcN Go.RowKit Go.Conc.Lib Go.ConcR.Gen Go.ConcN.Gen Lo
open Go.ConcR (KK wgBlock WgAt stA smA rd wr mk Payload DC0)
theorem enters (na pa:Option Addr) (nl nc pl pc n:Nat):Frame.enter Tryz.prog 52 #[.slice na nl nc,.slice pa pl pc,.int .i64 n] .normal=
   bs.at ⟨#[.slice na nl nc,.slice pa pl pc,.int .i64 n,undef,undef,undef,undef,undef,undef,undef,undef,undef,undef,undef,undef,undef,undef,undef,undef,undef,undef],[]⟩ [.code bodys]:=by
 simp [Frame.enter,Frame.at,Tryz.func52,bs,base,bodys,Tryz.f52]
section
variable {N n:Nat} {na pa:Option Addr} {nl nc pl pc:Nat} {c:Frame} {cs:List Frame} {SB:Nat -> Prop} {x9 x15 x16 x17 x18:Value}
set_option maxRecDepth 20000 in
theorem walkE {w:World} (hno:¬SB (N+4)) (hc:w.cell? ⟨N+4,0,none⟩=some (.slice (some ⟨N+3,0,none⟩) n n)) (d0:Nat):
   Goes Tryz.prog true AtRel (DF SB) (fun g w' =>g=G (c.finish (.slice (some ⟨N+3,0,none⟩) n n)) cs /\ AtRel w w') 12 (recW N n na pa nl nc pl pc (c::cs) x9 (.bool false) x15 x16 x17 x18) (w.at d0):=by
 simp only [recW,slH,codeE,codeA,bodys,Tryz.f52,Option.getD_some]
 walk_nrm
 (refine Goes.step rfl (fun _ hq=> ?_);obtain ⟨d,rfl⟩:=hq;simp only [at2];rw [stepG_region_end];simp only [goes_go];refine ⟨df_nil,?_⟩)
 (refine Goes.step rfl (fun _ hq=> ?_);obtain ⟨d,rfl⟩:=hq;simp only [at2];rw [stepG_seq];simp only [goes_go];refine ⟨df_nil,?_⟩)
 (refine Goes.step rfl (fun _ hq=> ?_);obtain ⟨d,rfl⟩:=hq;simp only [at2];rw [stepG_region];simp only [goes_go,List.size_toArray,List.length_cons,List.length_nil,Nat.zero_add];(try simp only [Nat.reduceAdd]);simp only [List.range,List.range.loop];refine ⟨df_nil,?_⟩)
 (refine Goes.step rfl (fun _ hq=> ?_);obtain ⟨d,rfl⟩:=hq;simp only [at2];rw [loads (w:=w.at d) rfl rfl rfl Tryz.isAgg104 rfl hc];simp only [goes_go];refine ⟨df_cell rfl hno (lt_of_cell hc),?_⟩;walk_nrm)
 (refine Goes.step rfl (fun _ hq=> ?_);obtain ⟨d,rfl⟩:=hq;simp only [at2];rw [vals rfl rfl (v:= .slice (some ⟨N+3,0,none⟩) n n) (by unfold execOp;simp [go_sem,Act.eval]) (by unfold execOp;simp [go_sem,Act.eval])];simp only [goes_go];refine ⟨df_nil,?_⟩;walk_nrm)
 (refine Goes.step rfl (fun _ hq=> ?_);obtain ⟨d,rfl⟩:=hq;simp only [at2];rw [stepG_region_end];simp only [goes_go];refine ⟨df_nil,?_⟩)
 (refine Goes.step rfl (fun _ hq=> ?_);obtain ⟨d,rfl⟩:=hq;simp only [at2];rw [stepG_ret'];simp only [goes_go];refine ⟨df_nil,?_⟩)
 (refine Goes.step rfl (fun _ hq=> ?_);obtain ⟨d,rfl⟩:=hq;simp only [at2];rw [stepG_leave rfl rfl Tryz.func52 (results_tmp (t:=6) rfl _ Tryz.prog _) (events_results_tmp (t:=6) rfl _ _)];simp only [goes_go];refine ⟨df_nil,?_⟩)
 exact Goes.stop (fun w₁ hq=>⟨rfl,atRel_trans _ _ _ ⟨_,rfl⟩ hq⟩)
end
structure S0 (s s0:World) (N:Nat):Prop where
 size:s.heap.size=N
 size0:s0.heap.size=N+7
 old:∀b,b<N -> s0.heap[b]? =s.heap[b]?
 b0:s0.heap[N]? =some (.cells #[] 99)
 b1:s0.heap[N+1]? =some (.cells #[] 101)
 b2:s0.heap[N+2]? =some (.cells #[] 3)
 b3:s0.heap[N+3]? =some (.cells (madeCells #[.slice none 0 0] 1) 99)
 b4:s0.heap[N+4]? =some (.cells #[] 104)
 b5:s0.heap[N+5]? =some (.cells #[] 141)
 b6:s0.heap[N+6]? =some (.cells #[] 3)
theorem S0.wr {SB:SBs} {s s0 w w1:World} {N:Nat} (h:S0 s s0 N) (hw:WR SB s w) (hSB:∀b,SB b -> b<N) (hold:∀b,b<N -> w1.heap[b]? =w.heap[b]?) (hsz:w1.heap.size=N+7)
   (h0:∃c,w1.heap[N]? =some (.cells c 99)) (h1:∃c,w1.heap[N+1]? =some (.cells c 101)) (h2:∃c,w1.heap[N+2]? =some (.cells c 3)) (h3:w1.heap[N+3]? =some (.cells (madeCells #[.slice none 0 0] 1) 99))
   (h4:∃c,w1.heap[N+4]? =some (.cells c 104)) (h5:∃c,w1.heap[N+5]? =some (.cells c 141)) (h6:∃c,w1.heap[N+6]? =some (.cells c 3)):WR (SB6 SB N) s0 w1:=by
 refine ⟨h.size0.trans hsz.symm,fun b hb=> ?_,fun b hb=> ?_,fun b o v hb hs hp hv=> ?_⟩
 · rcases Nat.lt_or_ge b N with hlt | hge
   · rw [h.old b hlt,hold b hlt]
     exact hw.same b fun hs=>hb (.inl hs)
   · by_cases e:b=N+3
     · subst e
       rw [h.b3,h3]
       exact .inl ⟨rfl,fun o ho=>by cases ho;exact ⟨by simp,by simp,by simp⟩⟩
     · have hbig:N+7 <= b:=by
         apply Nat.le_of_not_lt
         intro hlt
         exact hb (.inr (by omega))
       rw [Array.getElem?_eq_none (by rw [h.size0];exact hbig),Array.getElem?_eq_none (by rw [hsz];exact hbig)]
       exact .inl ⟨rfl,by simp⟩
 · rcases hb with hs | rfl | rfl | rfl | rfl | rfl | rfl
   · obtain ⟨t,c,e1,e2⟩:=hw.bad b hs
     exact ⟨t,c,(h.old b (hSB b hs)).trans e1,(hold b (hSB b hs)).trans e2⟩
   · obtain ⟨c,e⟩:=h0;exact ⟨_,c,h.b0,e⟩
   · obtain ⟨c,e⟩:=h1;exact ⟨_,c,h.b1,e⟩
   · obtain ⟨c,e⟩:=h2;exact ⟨_,c,h.b2,e⟩
   · obtain ⟨c,e⟩:=h4;exact ⟨_,c,h.b4,e⟩
   · obtain ⟨c,e⟩:=h5;exact ⟨_,c,h.b5,e⟩
   · obtain ⟨c,e⟩:=h6;exact ⟨_,c,h.b6,e⟩
 · rcases Nat.lt_or_ge b N with hlt | hge
   · rw [h.old b hlt] at hs
     rw [hold b hlt]
     exact hw.old b o v (fun hs=>hb (.inl hs)) hs hp hv
   · have hl:=(Array.getElem?_eq_some_iff.1 hs).1
     rw [h.size0] at hl
     by_cases e:b=N+3
     · subst e
       rw [h.b3] at hs
       cases hs
       exact absurd ⟨by simp,by simp,by simp,by simp⟩ hp
     · exact absurd (.inr (by omega)) hb
section
variable {S:Program} {ok:FuncId -> Bool} {sp:FuncId} {SB:Nat -> Prop} {SBw:SBs} {na pa:Option Addr} {nl nc pl pc:Nat} {s s0:World} {c:Frame} {cs:List Frame} {w:World} {gs:Array Goroutine} {q:Nat -> Nat} {t:Trace}
theorem sendAll_ends (W:WHyp S ok sp (more SB (w.heap.size+5)) SBw w.heap.size (.slice na nl nc) (.slice pa pl pc) s0) (hS0:S0 s s0 w.heap.size) (hwr:WR SBw s w) (hlt:∀b,SBw b -> b<w.heap.size) {Post:Value -> World -> Prop}
   (h0:gs[0]? =some (G (Frame.enter Tryz.prog 52 #[.slice na nl nc,.slice pa pl pc,.int .i64 (1:Nat)] .normal) (c::cs))) (hFr:Fr Tryz.prog SB gs q w t)
   (hK:∀gs' w' sl' t' q',gs'[0]? =some (G (c.finish (.slice (some ⟨w.heap.size+3,0,none⟩) 1 1)) cs) -> Fr Tryz.prog (more SB (w.heap.size+5)) gs' q' w' t' -> FinW S SBw w.heap.size (.slice na nl nc) (.slice pa pl pc) s0 undef w' -> WgLive lk.tWg (w.heap.size+5) w' ->
     (w'.os=w.os /\ w'.output=w.output /\ w'.tape=w.tape) -> Ends Tryz.prog Post (crowd gs' w' sl') t') (sl:Option (Nat×Nat)):Ends Tryz.prog Post (crowd gs w sl) t:=by
 have hsb:∀b,SB b -> b<w.heap.size:=hFr.sb
 rw [enters] at h0
 refine walk_fr 20 gs _ q w sl t h0 hFr (walkA (n:=1) (na:=na) (pa:=pa) (nl:=nl) (nc:=nc) (pl:=pl) (pc:=pc) (cs:=c::cs) hsb (by omega) w.drawn) fun gs1 a1 q1 w1 sl1 t1 g1 z1 F1 s1=> ?_
 obtain ⟨d1,rfl,rfl⟩:=s1
 refine step_new (w:=(Wa6 w 1 na pa nl nc pl pc)) (o:= .cells #[.int .u64 0,.int .u32 0] 141) (gs:=gs1) (SB:=SB) rfl (fun d=>⟨G (bs.at ⟨(slA w.heap.size 1 na pa nl nc pl pc).setIfInBounds 8 (.pointer (some ⟨w.heap.size+5,0,none⟩)),[]⟩ [.inRegion opsA [],.code codeA]) (c::cs),?_,?_⟩) (sumTo gs1.size q1) gs1 q1 d1 sl1 t1 (Nat.le_refl _) g1 rfl F1
 · have:=alloc3 (a:=⟨slA w.heap.size 1 na pa nl nc pl pc,[]⟩) (w:=(Wa6 w 1 na pa nl nc pl pc).at d) (ops:=opsA) (k:=0) (rest:=[]) (kk:=[.code codeA]) (cs:=c::cs) rfl rfl rfl
   rw [this]
   rw [show ((Wa6 w 1 na pa nl nc pl pc).at d).heap.size=w.heap.size+5 from sz6 w 1 na pa nl nc pl pc]
   rfl
 intro gs2 q2 sl2 t2 g2 z2 F2
 have e5:(Wa6 w 1 na pa nl nc pl pc).heap.size=w.heap.size+5:=sz6 w 1 na pa nl nc pl pc
 rw [e5] at F2
 have e7:({(Wa6 w 1 na pa nl nc pl pc).at d with heap:=((Wa6 w 1 na pa nl nc pl pc).at d).heap.push (.cells #[.int .u64 0,.int .u32 0] 141) }:World)=(Wa7 w 1 na pa nl nc pl pc).at d:=rfl
 rw [e7] at F2 ⊢
 have hSB2:∀b,more SB (w.heap.size+5) b -> b<w.heap.size \/ b=w.heap.size+5:=fun b hb=>hb.imp (hsb b) id
 refine walk_fr 20 gs2 _ q2 _ sl2 t2 g2 F2 (walkB hSB2 d) fun gs3 a3 q3 w3 sl3 t3 g3 z3 F3 s3=> ?_
 obtain ⟨d3,rfl,rfl⟩:=s3
 obtain ⟨k0,k1,k2,k3,k4,k5,kO⟩:=h7 w 1 na pa nl nc pl pc
 have hsz7:((Wa7 w 1 na pa nl nc pl pc).at d3).heap.size=w.heap.size+6:=sz7 w 1 na pa nl nc pl pc
 have hwg:WgAt lk.tWg (w.heap.size+5) ((Wa7 w 1 na pa nl nc pl pc).at d3) 0 0:=k5
 have hB:Base w.heap.size na pa nl nc pl pc ((Wa7 w 1 na pa nl nc pl pc).at d3):=⟨k0,k1,k2,k4⟩
 have G1:Geom (more SB (w.heap.size+5)) (w.heap.size+5) w.heap.size (w.heap.size+6):=
   ⟨by omega,by omega,by omega,.inr rfl,fun b hb=>by have:=hSB2 b hb;omega⟩
 have hρ:∀w' :World,w'.heap[w.heap.size+6]? =some (oj 0) -> (∀b,b<w.heap.size+6 -> b≠w.heap.size+5 -> w'.heap[b]? =((Wa7 w 1 na pa nl nc pl pc).at d3).heap[b]?) -> w'.heap.size=w.heap.size+6+1 -> WgLive lk.tWg (w.heap.size+5) w' -> WR (SB6 SBw w.heap.size) s0 w':=by
   intro w' e6 hb hsz hl
   obtain ⟨st,sm,hl⟩:=hl
   exact hS0.wr hwr hlt (fun b hl=>(hb b (by omega) (by omega)).trans (kO b hl)) hsz ⟨_,(hb _ (by omega) (by omega)).trans k0⟩ ⟨_,(hb _ (by omega) (by omega)).trans k1⟩ ⟨_,(hb _ (by omega) (by omega)).trans k2⟩ ((hb _ (by omega) (by omega)).trans k3) ⟨_,(hb _ (by omega) (by omega)).trans k4⟩ ⟨_,hl⟩ ⟨_,e6⟩
 obtain ⟨m,hm⟩:=headR (cs:=c::cs) (w0:=(Wa7 w 1 na pa nl nc pl pc).at d3) W hB hρ undef undef undef undef undef undef
 refine group hsz7.symm G1 (anchS_run _ _ _ _ _ _ _ _ _) (anchS_goes (SB:=more SB (w.heap.size+5)) _ _ _ _ _ _ _ _ _) g3 F3 hwg (hm _ ⟨_,_,hwg⟩) (fun gs4 a4 w4 sl4 t4 q4 J=> ?_) sl3
 obtain ⟨x9,x15,x16,x17,x18,m4,hm4⟩:=J.out
 have hlive:WgLive lk.tWg (w.heap.size+5) w4:=J.live
 obtain ⟨vJ,_,hfin⟩:=J.fin
 have hfin' :FinW S SBw w.heap.size (.slice na nl nc) (.slice pa pl pc) s0 vJ w4:=hfin
 obtain ⟨v,s',wf,hcame,f1,f2,f3,f4⟩:=hfin'
 refine walk_fr m4 gs4 a4 q4 w4 sl4 t4 J.zero J.fr (hm4 w4 hlive) fun gs5 a5 q5 w5 sl5 t5 g5 z5 F5 s5=> ?_
 obtain ⟨rfl,d5,rfl⟩:=s5
 have hc4:w4.cell? ⟨w.heap.size+4,0,none⟩=some (.slice (some ⟨w.heap.size+3,0,none⟩) 1 1):=by
   rw [cell_of_block (f1 (w.heap.size+4) (by omega) (by omega) (by omega)) 0]
   exact hcame.2.2.2.cB
 refine walk_fr 12 gs5 _ q5 _ sl5 t5 g5 F5 (walkE (c:=c) (cs:=cs) (w:=w4) (fun h=>by have:=hSB2 _ h;omega) hc4 d5) fun gs6 a6 q6 w6 sl6 t6 g6 z6 F6 s6=> ?_
 obtain ⟨rfl,d6,rfl⟩:=s6
 refine hK gs6 (w4.at d6) sl6 t6 q6 g6 F6 ⟨v,s',wf,hcame,f1,f2,f3,f4⟩ hlive ⟨J.same.1.trans ?_,J.same.2.1.trans ?_,J.same.2.2.trans ?_⟩
 · rfl
 · rfl
 · rfl
end
end Crw
end Go.Proofs.YtfphigmeppdocaaGreat
namespace Go.Proofs.YtfphigmeppdocaaGreat
namespace Lo
section
variable (R:Program) (kn:List Nat) (sp:Nat) (g:Func)
theorem mask_tb:(mask R kn sp g).toTables=R.toTables:=rfl
theorem mask_pu (t:TypeId):(mask R kn sp g).underlying t=R.underlying t:=rfl
theorem mask_ti (t:TypeId) (w:World):(typeInfo t).run (mask R kn sp g) w=(typeInfo t).run R w:=by
 have h1 : ∀ P : Program, (typeInfo t).run P w = (match P.info? t with | some i => (.ok i w : Result TypeInfo) | none => .halt (.stuck "no such type") w) := by
   intro P
   show (match P.info? t with | some i => (pure i : Sem TypeInfo) | none => stuck "no such type").run P w = _
   cases P.info? t<;>rfl
 rw [h1,h1,mask_tb]
theorem mask_un (t:TypeId) (w:World):(underlying t).run (mask R kn sp g) w=(underlying t).run R w:=by
 have h1 : ∀ P : Program, (underlying t).run P w = (match P.underlying t with | some i => (.ok i w : Result TypeDesc) | none => .halt (.stuck "no such type") w) := by
   intro P
   show (match P.underlying t with | some i => (pure i : Sem TypeDesc) | none => stuck "no such type").run P w = _
   cases P.underlying t<;>rfl
 rw [h1,h1,mask_pu]
theorem mask_so (t:TypeId) (w:World):(sizeOf t).run (mask R kn sp g) w=(sizeOf t).run R w:=by
 simp [sizeOf,mask_ti]
theorem mask_ag (t:TypeId) (w:World):(isAgg t).run (mask R kn sp g) w=(isAgg t).run R w:=by
 simp only [isAgg,Sem.run_bind,mask_un]
 congr 1
 funext d w'
 cases d<;>simp
theorem mask_zv (t:TypeId) (w:World):(zeroValue t).run (mask R kn sp g) w=(zeroValue t).run R w:=by
 simp only [zeroValue,Sem.run_bind,mask_ti]
 congr 1
 funext d w'
 cases d.zero<;>simp
variable {R kn sp g}
theorem mask_at {f:FuncId} {fn:Func} (h:R.funcs[f]? =some fn) (hf:f≠sp) (hk:kn.contains f=true):(mask R kn sp g).funcs[f]? =some fn:=by
 rw [mask_get,h]
 simp only [Option.map_some,pickF,if_neg hf,hk,if_true]
end
end Lo
end Go.Proofs.YtfphigmeppdocaaGreat
namespace Go.Proofs.YtfphigmeppdocaaGreat
open Lo (Seq.prog fS kn)
@[simp] theorem Seq.so (t:TypeId) (w:World):(sizeOf t).run Seq.prog w=(sizeOf t).run Tryz.prog w:=Lo.mask_so _ _ _ _ t w
@[simp] theorem Seq.un (t:TypeId) (w:World):(underlying t).run Seq.prog w=(underlying t).run Tryz.prog w:=Lo.mask_un _ _ _ _ t w
@[simp] theorem Seq.ag (t:TypeId) (w:World):(isAgg t).run Seq.prog w=(isAgg t).run Tryz.prog w:=Lo.mask_ag _ _ _ _ t w
@[simp] theorem Seq.zv (t:TypeId) (w:World):(zeroValue t).run Seq.prog w=(zeroValue t).run Tryz.prog w:=Lo.mask_zv _ _ _ _ t w
@[simp] theorem Seq.pu (t:TypeId):Seq.prog.underlying t=Tryz.prog.underlying t:=Lo.mask_pu _ _ _ _ t
theorem Seq.call {f:FuncId} (h:kn.contains f=true) (args:Array Value) (w:World):(callFunc f args).run Seq.prog w= .ok (.enter f args) w:=by
 obtain ⟨fn,_,e1,_⟩:=Lo.seq_fine.1.same f h
 obtain ⟨e3,c,hc,_⟩:=Lo.seq_fine.1.all f fn e1
 simp [callFunc,e1,e3,hc]
theorem Seq.at {f:FuncId} {fn:Func} (h:Tryz.prog.funcs[f]? =some fn) (hf:f≠52) (hk:kn.contains f=true):Seq.prog.funcs[f]? =some fn:=Lo.mask_at h hf hk
@[simp] theorem Seq.call52 (args:Array Value) (w:World):(callFunc 52 args).run Seq.prog w= .ok (.enter 52 args) w:=Seq.call (by rfl) args w
theorem Seq.func4:Seq.prog.funcs[4]? =some Tryz.f4:=Seq.at Tryz.func4 (by decide) (by rfl)
theorem Seq.func5:Seq.prog.funcs[5]? =some Tryz.f5:=Seq.at Tryz.func5 (by decide) (by rfl)
theorem Seq.func6:Seq.prog.funcs[6]? =some Tryz.f6:=Seq.at Tryz.func6 (by decide) (by rfl)
theorem Seq.func11:Seq.prog.funcs[11]? =some Tryz.f11:=Seq.at Tryz.func11 (by decide) (by rfl)
theorem Seq.func12:Seq.prog.funcs[12]? =some Tryz.f12:=Seq.at Tryz.func12 (by decide) (by rfl)
theorem Seq.func13:Seq.prog.funcs[13]? =some Tryz.f13:=Seq.at Tryz.func13 (by decide) (by rfl)
theorem Seq.func14:Seq.prog.funcs[14]? =some Tryz.f14:=Seq.at Tryz.func14 (by decide) (by rfl)
theorem Seq.func15:Seq.prog.funcs[15]? =some Tryz.f15:=Seq.at Tryz.func15 (by decide) (by rfl)
theorem Seq.func16:Seq.prog.funcs[16]? =some Tryz.f16:=Seq.at Tryz.func16 (by decide) (by rfl)
theorem Seq.func17:Seq.prog.funcs[17]? =some Tryz.f17:=Seq.at Tryz.func17 (by decide) (by rfl)
theorem Seq.func18:Seq.prog.funcs[18]? =some Tryz.f18:=Seq.at Tryz.func18 (by decide) (by rfl)
theorem Seq.func19:Seq.prog.funcs[19]? =some Tryz.f19:=Seq.at Tryz.func19 (by decide) (by rfl)
theorem Seq.func20:Seq.prog.funcs[20]? =some Tryz.f20:=Seq.at Tryz.func20 (by decide) (by rfl)
theorem Seq.func21:Seq.prog.funcs[21]? =some Tryz.f21:=Seq.at Tryz.func21 (by decide) (by rfl)
theorem Seq.func22:Seq.prog.funcs[22]? =some Tryz.f22:=Seq.at Tryz.func22 (by decide) (by rfl)
theorem Seq.func23:Seq.prog.funcs[23]? =some Tryz.f23:=Seq.at Tryz.func23 (by decide) (by rfl)
theorem Seq.func24:Seq.prog.funcs[24]? =some Tryz.f24:=Seq.at Tryz.func24 (by decide) (by rfl)
theorem Seq.func25:Seq.prog.funcs[25]? =some Tryz.f25:=Seq.at Tryz.func25 (by decide) (by rfl)
theorem Seq.func35:Seq.prog.funcs[35]? =some Tryz.f35:=Seq.at Tryz.func35 (by decide) (by rfl)
theorem Seq.func36:Seq.prog.funcs[36]? =some Tryz.f36:=Seq.at Tryz.func36 (by decide) (by rfl)
theorem Seq.func37:Seq.prog.funcs[37]? =some Tryz.f37:=Seq.at Tryz.func37 (by decide) (by rfl)
theorem Seq.func38:Seq.prog.funcs[38]? =some Tryz.f38:=Seq.at Tryz.func38 (by decide) (by rfl)
theorem Seq.func39:Seq.prog.funcs[39]? =some Tryz.f39:=Seq.at Tryz.func39 (by decide) (by rfl)
theorem Seq.func40:Seq.prog.funcs[40]? =some Tryz.f40:=Seq.at Tryz.func40 (by decide) (by rfl)
theorem Seq.func41:Seq.prog.funcs[41]? =some Tryz.f41:=Seq.at Tryz.func41 (by decide) (by rfl)
theorem Seq.func42:Seq.prog.funcs[42]? =some Tryz.f42:=Seq.at Tryz.func42 (by decide) (by rfl)
theorem Seq.func43:Seq.prog.funcs[43]? =some Tryz.f43:=Seq.at Tryz.func43 (by decide) (by rfl)
theorem Seq.func44:Seq.prog.funcs[44]? =some Tryz.f44:=Seq.at Tryz.func44 (by decide) (by rfl)
theorem Seq.func45:Seq.prog.funcs[45]? =some Tryz.f45:=Seq.at Tryz.func45 (by decide) (by rfl)
theorem Seq.func46:Seq.prog.funcs[46]? =some Tryz.f46:=Seq.at Tryz.func46 (by decide) (by rfl)
theorem Seq.func47:Seq.prog.funcs[47]? =some Tryz.f47:=Seq.at Tryz.func47 (by decide) (by rfl)
theorem Seq.func48:Seq.prog.funcs[48]? =some Tryz.f48:=Seq.at Tryz.func48 (by decide) (by rfl)
theorem Seq.func49:Seq.prog.funcs[49]? =some Tryz.f49:=Seq.at Tryz.func49 (by decide) (by rfl)
theorem Seq.func50:Seq.prog.funcs[50]? =some Tryz.f50:=Seq.at Tryz.func50 (by decide) (by rfl)
theorem Seq.func51:Seq.prog.funcs[51]? =some Tryz.f51:=Seq.at Tryz.func51 (by decide) (by rfl)
theorem Seq.func53:Seq.prog.funcs[53]? =some Tryz.f53:=Seq.at Tryz.func53 (by decide) (by rfl)
theorem Seq.func54:Seq.prog.funcs[54]? =some Tryz.f54:=Seq.at Tryz.func54 (by decide) (by rfl)
theorem Seq.func55:Seq.prog.funcs[55]? =some Tryz.f55:=Seq.at Tryz.func55 (by decide) (by rfl)
theorem Seq.func56:Seq.prog.funcs[56]? =some Tryz.f56:=Seq.at Tryz.func56 (by decide) (by rfl)
theorem Seq.func57:Seq.prog.funcs[57]? =some Tryz.f57:=Seq.at Tryz.func57 (by decide) (by rfl)
theorem Seq.func58:Seq.prog.funcs[58]? =some Tryz.f58:=Seq.at Tryz.func58 (by decide) (by rfl)
theorem Seq.func59:Seq.prog.funcs[59]? =some Tryz.f59:=Seq.at Tryz.func59 (by decide) (by rfl)
theorem Seq.func63:Seq.prog.funcs[63]? =some Tryz.f63:=Seq.at Tryz.func63 (by decide) (by rfl)
theorem Seq.func64:Seq.prog.funcs[64]? =some Tryz.f64:=Seq.at Tryz.func64 (by decide) (by rfl)
theorem Seq.func65:Seq.prog.funcs[65]? =some Tryz.f65:=Seq.at Tryz.func65 (by decide) (by rfl)
theorem Seq.func66:Seq.prog.funcs[66]? =some Tryz.f66:=Seq.at Tryz.func66 (by decide) (by rfl)
theorem Seq.func67:Seq.prog.funcs[67]? =some Tryz.f67:=Seq.at Tryz.func67 (by decide) (by rfl)
theorem Seq.func68:Seq.prog.funcs[68]? =some Tryz.f68:=Seq.at Tryz.func68 (by decide) (by rfl)
theorem Seq.func69:Seq.prog.funcs[69]? =some Tryz.f69:=Seq.at Tryz.func69 (by decide) (by rfl)
theorem Seq.func70:Seq.prog.funcs[70]? =some Tryz.f70:=Seq.at Tryz.func70 (by decide) (by rfl)
theorem Seq.func71:Seq.prog.funcs[71]? =some Tryz.f71:=Seq.at Tryz.func71 (by decide) (by rfl)
theorem Seq.func72:Seq.prog.funcs[72]? =some Tryz.f72:=Seq.at Tryz.func72 (by decide) (by rfl)
theorem Seq.func73:Seq.prog.funcs[73]? =some Tryz.f73:=Seq.at Tryz.func73 (by decide) (by rfl)
theorem Seq.func77:Seq.prog.funcs[77]? =some Tryz.f77:=Seq.at Tryz.func77 (by decide) (by rfl)
theorem Seq.func79:Seq.prog.funcs[79]? =some Tryz.f79:=Seq.at Tryz.func79 (by decide) (by rfl)
theorem Seq.func80:Seq.prog.funcs[80]? =some Tryz.f80:=Seq.at Tryz.func80 (by decide) (by rfl)
theorem Seq.func81:Seq.prog.funcs[81]? =some Tryz.f81:=Seq.at Tryz.func81 (by decide) (by rfl)
theorem Seq.func82:Seq.prog.funcs[82]? =some Tryz.f82:=Seq.at Tryz.func82 (by decide) (by rfl)
theorem Seq.func83:Seq.prog.funcs[83]? =some Tryz.f83:=Seq.at Tryz.func83 (by decide) (by rfl)
theorem Seq.func84:Seq.prog.funcs[84]? =some Tryz.f84:=Seq.at Tryz.func84 (by decide) (by rfl)
theorem Seq.func85:Seq.prog.funcs[85]? =some Tryz.f85:=Seq.at Tryz.func85 (by decide) (by rfl)
theorem Seq.func86:Seq.prog.funcs[86]? =some Tryz.f86:=Seq.at Tryz.func86 (by decide) (by rfl)
theorem Seq.func87:Seq.prog.funcs[87]? =some Tryz.f87:=Seq.at Tryz.func87 (by decide) (by rfl)
theorem Seq.func88:Seq.prog.funcs[88]? =some Tryz.f88:=Seq.at Tryz.func88 (by decide) (by rfl)
theorem Seq.func89:Seq.prog.funcs[89]? =some Tryz.f89:=Seq.at Tryz.func89 (by decide) (by rfl)
theorem Seq.func103:Seq.prog.funcs[103]? =some Tryz.f103:=Seq.at Tryz.func103 (by decide) (by rfl)
theorem Seq.func109:Seq.prog.funcs[109]? =some Tryz.f109:=Seq.at Tryz.func109 (by decide) (by rfl)
theorem Seq.func110:Seq.prog.funcs[110]? =some Tryz.f110:=Seq.at Tryz.func110 (by decide) (by rfl)
theorem Seq.func111:Seq.prog.funcs[111]? =some Tryz.f111:=Seq.at Tryz.func111 (by decide) (by rfl)
theorem Seq.func112:Seq.prog.funcs[112]? =some Tryz.f112:=Seq.at Tryz.func112 (by decide) (by rfl)
theorem Seq.func113:Seq.prog.funcs[113]? =some Tryz.f113:=Seq.at Tryz.func113 (by decide) (by rfl)
theorem Seq.func114:Seq.prog.funcs[114]? =some Tryz.f114:=Seq.at Tryz.func114 (by decide) (by rfl)
theorem Seq.func115:Seq.prog.funcs[115]? =some Tryz.f115:=Seq.at Tryz.func115 (by decide) (by rfl)
theorem Seq.func116:Seq.prog.funcs[116]? =some Tryz.f116:=Seq.at Tryz.func116 (by decide) (by rfl)
theorem Seq.func117:Seq.prog.funcs[117]? =some Tryz.f117:=Seq.at Tryz.func117 (by decide) (by rfl)
theorem Seq.func118:Seq.prog.funcs[118]? =some Tryz.f118:=Seq.at Tryz.func118 (by decide) (by rfl)
theorem Seq.func119:Seq.prog.funcs[119]? =some Tryz.f119:=Seq.at Tryz.func119 (by decide) (by rfl)
theorem Seq.func124:Seq.prog.funcs[124]? =some Tryz.f124:=Seq.at Tryz.func124 (by decide) (by rfl)
theorem Seq.func126:Seq.prog.funcs[126]? =some Tryz.f126:=Seq.at Tryz.func126 (by decide) (by rfl)
theorem Seq.func127:Seq.prog.funcs[127]? =some Tryz.f127:=Seq.at Tryz.func127 (by decide) (by rfl)
theorem Seq.func128:Seq.prog.funcs[128]? =some Tryz.f128:=Seq.at Tryz.func128 (by decide) (by rfl)
theorem Seq.func129:Seq.prog.funcs[129]? =some Tryz.f129:=Seq.at Tryz.func129 (by decide) (by rfl)
theorem Seq.func130:Seq.prog.funcs[130]? =some Tryz.f130:=Seq.at Tryz.func130 (by decide) (by rfl)
theorem Seq.func131:Seq.prog.funcs[131]? =some Tryz.f131:=Seq.at Tryz.func131 (by decide) (by rfl)
theorem Seq.func132:Seq.prog.funcs[132]? =some Tryz.f132:=Seq.at Tryz.func132 (by decide) (by rfl)
theorem Seq.func133:Seq.prog.funcs[133]? =some Tryz.f133:=Seq.at Tryz.func133 (by decide) (by rfl)
theorem Seq.func134:Seq.prog.funcs[134]? =some Tryz.f134:=Seq.at Tryz.func134 (by decide) (by rfl)
theorem Seq.func135:Seq.prog.funcs[135]? =some Tryz.f135:=Seq.at Tryz.func135 (by decide) (by rfl)
theorem Seq.func136:Seq.prog.funcs[136]? =some Tryz.f136:=Seq.at Tryz.func136 (by decide) (by rfl)
theorem Seq.func137:Seq.prog.funcs[137]? =some Tryz.f137:=Seq.at Tryz.func137 (by decide) (by rfl)
theorem Seq.func138:Seq.prog.funcs[138]? =some Tryz.f138:=Seq.at Tryz.func138 (by decide) (by rfl)
theorem Seq.func139:Seq.prog.funcs[139]? =some Tryz.f139:=Seq.at Tryz.func139 (by decide) (by rfl)
theorem Seq.func140:Seq.prog.funcs[140]? =some Tryz.f140:=Seq.at Tryz.func140 (by decide) (by rfl)
theorem Seq.func141:Seq.prog.funcs[141]? =some Tryz.f141:=Seq.at Tryz.func141 (by decide) (by rfl)
theorem Seq.func142:Seq.prog.funcs[142]? =some Tryz.f142:=Seq.at Tryz.func142 (by decide) (by rfl)
theorem Seq.func143:Seq.prog.funcs[143]? =some Tryz.f143:=Seq.at Tryz.func143 (by decide) (by rfl)
theorem Seq.func144:Seq.prog.funcs[144]? =some Tryz.f144:=Seq.at Tryz.func144 (by decide) (by rfl)
theorem Seq.func145:Seq.prog.funcs[145]? =some Tryz.f145:=Seq.at Tryz.func145 (by decide) (by rfl)
theorem Seq.func146:Seq.prog.funcs[146]? =some Tryz.f146:=Seq.at Tryz.func146 (by decide) (by rfl)
theorem Seq.func147:Seq.prog.funcs[147]? =some Tryz.f147:=Seq.at Tryz.func147 (by decide) (by rfl)
theorem Seq.func148:Seq.prog.funcs[148]? =some Tryz.f148:=Seq.at Tryz.func148 (by decide) (by rfl)
theorem Seq.func149:Seq.prog.funcs[149]? =some Tryz.f149:=Seq.at Tryz.func149 (by decide) (by rfl)
theorem Seq.func150:Seq.prog.funcs[150]? =some Tryz.f150:=Seq.at Tryz.func150 (by decide) (by rfl)
theorem Seq.func151:Seq.prog.funcs[151]? =some Tryz.f151:=Seq.at Tryz.func151 (by decide) (by rfl)
@[simp] theorem Seq.call5 (args:Array Value) (w:World):(callFunc 5 args).run Seq.prog w= .ok (.enter 5 args) w:=Seq.call (by rfl) args w
@[simp] theorem Seq.call6 (args:Array Value) (w:World):(callFunc 6 args).run Seq.prog w= .ok (.enter 6 args) w:=Seq.call (by rfl) args w
@[simp] theorem Seq.call11 (args:Array Value) (w:World):(callFunc 11 args).run Seq.prog w= .ok (.enter 11 args) w:=Seq.call (by rfl) args w
@[simp] theorem Seq.call12 (args:Array Value) (w:World):(callFunc 12 args).run Seq.prog w= .ok (.enter 12 args) w:=Seq.call (by rfl) args w
@[simp] theorem Seq.call13 (args:Array Value) (w:World):(callFunc 13 args).run Seq.prog w= .ok (.enter 13 args) w:=Seq.call (by rfl) args w
@[simp] theorem Seq.call14 (args:Array Value) (w:World):(callFunc 14 args).run Seq.prog w= .ok (.enter 14 args) w:=Seq.call (by rfl) args w
@[simp] theorem Seq.call15 (args:Array Value) (w:World):(callFunc 15 args).run Seq.prog w= .ok (.enter 15 args) w:=Seq.call (by rfl) args w
@[simp] theorem Seq.call16 (args:Array Value) (w:World):(callFunc 16 args).run Seq.prog w= .ok (.enter 16 args) w:=Seq.call (by rfl) args w
@[simp] theorem Seq.call17 (args:Array Value) (w:World):(callFunc 17 args).run Seq.prog w= .ok (.enter 17 args) w:=Seq.call (by rfl) args w
@[simp] theorem Seq.call18 (args:Array Value) (w:World):(callFunc 18 args).run Seq.prog w= .ok (.enter 18 args) w:=Seq.call (by rfl) args w
@[simp] theorem Seq.call19 (args:Array Value) (w:World):(callFunc 19 args).run Seq.prog w= .ok (.enter 19 args) w:=Seq.call (by rfl) args w
@[simp] theorem Seq.call20 (args:Array Value) (w:World):(callFunc 20 args).run Seq.prog w= .ok (.enter 20 args) w:=Seq.call (by rfl) args w
@[simp] theorem Seq.call21 (args:Array Value) (w:World):(callFunc 21 args).run Seq.prog w= .ok (.enter 21 args) w:=Seq.call (by rfl) args w
@[simp] theorem Seq.call22 (args:Array Value) (w:World):(callFunc 22 args).run Seq.prog w= .ok (.enter 22 args) w:=Seq.call (by rfl) args w
@[simp] theorem Seq.call23 (args:Array Value) (w:World):(callFunc 23 args).run Seq.prog w= .ok (.enter 23 args) w:=Seq.call (by rfl) args w
@[simp] theorem Seq.call24 (args:Array Value) (w:World):(callFunc 24 args).run Seq.prog w= .ok (.enter 24 args) w:=Seq.call (by rfl) args w
@[simp] theorem Seq.call25 (args:Array Value) (w:World):(callFunc 25 args).run Seq.prog w= .ok (.enter 25 args) w:=Seq.call (by rfl) args w
@[simp] theorem Seq.call35 (args:Array Value) (w:World):(callFunc 35 args).run Seq.prog w= .ok (.enter 35 args) w:=Seq.call (by rfl) args w
@[simp] theorem Seq.call36 (args:Array Value) (w:World):(callFunc 36 args).run Seq.prog w= .ok (.enter 36 args) w:=Seq.call (by rfl) args w
@[simp] theorem Seq.call37 (args:Array Value) (w:World):(callFunc 37 args).run Seq.prog w= .ok (.enter 37 args) w:=Seq.call (by rfl) args w
@[simp] theorem Seq.call38 (args:Array Value) (w:World):(callFunc 38 args).run Seq.prog w= .ok (.enter 38 args) w:=Seq.call (by rfl) args w
@[simp] theorem Seq.call40 (args:Array Value) (w:World):(callFunc 40 args).run Seq.prog w= .ok (.enter 40 args) w:=Seq.call (by rfl) args w
@[simp] theorem Seq.call41 (args:Array Value) (w:World):(callFunc 41 args).run Seq.prog w= .ok (.enter 41 args) w:=Seq.call (by rfl) args w
@[simp] theorem Seq.call42 (args:Array Value) (w:World):(callFunc 42 args).run Seq.prog w= .ok (.enter 42 args) w:=Seq.call (by rfl) args w
@[simp] theorem Seq.call43 (args:Array Value) (w:World):(callFunc 43 args).run Seq.prog w= .ok (.enter 43 args) w:=Seq.call (by rfl) args w
@[simp] theorem Seq.call45 (args:Array Value) (w:World):(callFunc 45 args).run Seq.prog w= .ok (.enter 45 args) w:=Seq.call (by rfl) args w
@[simp] theorem Seq.call46 (args:Array Value) (w:World):(callFunc 46 args).run Seq.prog w= .ok (.enter 46 args) w:=Seq.call (by rfl) args w
@[simp] theorem Seq.call47 (args:Array Value) (w:World):(callFunc 47 args).run Seq.prog w= .ok (.enter 47 args) w:=Seq.call (by rfl) args w
@[simp] theorem Seq.call48 (args:Array Value) (w:World):(callFunc 48 args).run Seq.prog w= .ok (.enter 48 args) w:=Seq.call (by rfl) args w
@[simp] theorem Seq.call49 (args:Array Value) (w:World):(callFunc 49 args).run Seq.prog w= .ok (.enter 49 args) w:=Seq.call (by rfl) args w
@[simp] theorem Seq.call50 (args:Array Value) (w:World):(callFunc 50 args).run Seq.prog w= .ok (.enter 50 args) w:=Seq.call (by rfl) args w
@[simp] theorem Seq.call51 (args:Array Value) (w:World):(callFunc 51 args).run Seq.prog w= .ok (.enter 51 args) w:=Seq.call (by rfl) args w
@[simp] theorem Seq.call53 (args:Array Value) (w:World):(callFunc 53 args).run Seq.prog w= .ok (.enter 53 args) w:=Seq.call (by rfl) args w
@[simp] theorem Seq.call54 (args:Array Value) (w:World):(callFunc 54 args).run Seq.prog w= .ok (.enter 54 args) w:=Seq.call (by rfl) args w
@[simp] theorem Seq.call55 (args:Array Value) (w:World):(callFunc 55 args).run Seq.prog w= .ok (.enter 55 args) w:=Seq.call (by rfl) args w
@[simp] theorem Seq.call56 (args:Array Value) (w:World):(callFunc 56 args).run Seq.prog w= .ok (.enter 56 args) w:=Seq.call (by rfl) args w
@[simp] theorem Seq.call57 (args:Array Value) (w:World):(callFunc 57 args).run Seq.prog w= .ok (.enter 57 args) w:=Seq.call (by rfl) args w
@[simp] theorem Seq.call58 (args:Array Value) (w:World):(callFunc 58 args).run Seq.prog w= .ok (.enter 58 args) w:=Seq.call (by rfl) args w
@[simp] theorem Seq.call59 (args:Array Value) (w:World):(callFunc 59 args).run Seq.prog w= .ok (.enter 59 args) w:=Seq.call (by rfl) args w
@[simp] theorem Seq.call63 (args:Array Value) (w:World):(callFunc 63 args).run Seq.prog w= .ok (.enter 63 args) w:=Seq.call (by rfl) args w
@[simp] theorem Seq.call64 (args:Array Value) (w:World):(callFunc 64 args).run Seq.prog w= .ok (.enter 64 args) w:=Seq.call (by rfl) args w
@[simp] theorem Seq.call65 (args:Array Value) (w:World):(callFunc 65 args).run Seq.prog w= .ok (.enter 65 args) w:=Seq.call (by rfl) args w
@[simp] theorem Seq.call66 (args:Array Value) (w:World):(callFunc 66 args).run Seq.prog w= .ok (.enter 66 args) w:=Seq.call (by rfl) args w
@[simp] theorem Seq.call67 (args:Array Value) (w:World):(callFunc 67 args).run Seq.prog w= .ok (.enter 67 args) w:=Seq.call (by rfl) args w
@[simp] theorem Seq.call68 (args:Array Value) (w:World):(callFunc 68 args).run Seq.prog w= .ok (.enter 68 args) w:=Seq.call (by rfl) args w
@[simp] theorem Seq.call69 (args:Array Value) (w:World):(callFunc 69 args).run Seq.prog w= .ok (.enter 69 args) w:=Seq.call (by rfl) args w
@[simp] theorem Seq.call70 (args:Array Value) (w:World):(callFunc 70 args).run Seq.prog w= .ok (.enter 70 args) w:=Seq.call (by rfl) args w
@[simp] theorem Seq.call71 (args:Array Value) (w:World):(callFunc 71 args).run Seq.prog w= .ok (.enter 71 args) w:=Seq.call (by rfl) args w
@[simp] theorem Seq.call72 (args:Array Value) (w:World):(callFunc 72 args).run Seq.prog w= .ok (.enter 72 args) w:=Seq.call (by rfl) args w
@[simp] theorem Seq.call73 (args:Array Value) (w:World):(callFunc 73 args).run Seq.prog w= .ok (.enter 73 args) w:=Seq.call (by rfl) args w
@[simp] theorem Seq.call79 (args:Array Value) (w:World):(callFunc 79 args).run Seq.prog w= .ok (.enter 79 args) w:=Seq.call (by rfl) args w
@[simp] theorem Seq.call80 (args:Array Value) (w:World):(callFunc 80 args).run Seq.prog w= .ok (.enter 80 args) w:=Seq.call (by rfl) args w
@[simp] theorem Seq.call81 (args:Array Value) (w:World):(callFunc 81 args).run Seq.prog w= .ok (.enter 81 args) w:=Seq.call (by rfl) args w
@[simp] theorem Seq.call82 (args:Array Value) (w:World):(callFunc 82 args).run Seq.prog w= .ok (.enter 82 args) w:=Seq.call (by rfl) args w
@[simp] theorem Seq.call83 (args:Array Value) (w:World):(callFunc 83 args).run Seq.prog w= .ok (.enter 83 args) w:=Seq.call (by rfl) args w
@[simp] theorem Seq.call84 (args:Array Value) (w:World):(callFunc 84 args).run Seq.prog w= .ok (.enter 84 args) w:=Seq.call (by rfl) args w
@[simp] theorem Seq.call85 (args:Array Value) (w:World):(callFunc 85 args).run Seq.prog w= .ok (.enter 85 args) w:=Seq.call (by rfl) args w
@[simp] theorem Seq.call86 (args:Array Value) (w:World):(callFunc 86 args).run Seq.prog w= .ok (.enter 86 args) w:=Seq.call (by rfl) args w
@[simp] theorem Seq.call87 (args:Array Value) (w:World):(callFunc 87 args).run Seq.prog w= .ok (.enter 87 args) w:=Seq.call (by rfl) args w
@[simp] theorem Seq.call88 (args:Array Value) (w:World):(callFunc 88 args).run Seq.prog w= .ok (.enter 88 args) w:=Seq.call (by rfl) args w
@[simp] theorem Seq.call89 (args:Array Value) (w:World):(callFunc 89 args).run Seq.prog w= .ok (.enter 89 args) w:=Seq.call (by rfl) args w
@[simp] theorem Seq.call103 (args:Array Value) (w:World):(callFunc 103 args).run Seq.prog w= .ok (.enter 103 args) w:=Seq.call (by rfl) args w
@[simp] theorem Seq.call109 (args:Array Value) (w:World):(callFunc 109 args).run Seq.prog w= .ok (.enter 109 args) w:=Seq.call (by rfl) args w
@[simp] theorem Seq.call110 (args:Array Value) (w:World):(callFunc 110 args).run Seq.prog w= .ok (.enter 110 args) w:=Seq.call (by rfl) args w
@[simp] theorem Seq.call111 (args:Array Value) (w:World):(callFunc 111 args).run Seq.prog w= .ok (.enter 111 args) w:=Seq.call (by rfl) args w
@[simp] theorem Seq.call115 (args:Array Value) (w:World):(callFunc 115 args).run Seq.prog w= .ok (.enter 115 args) w:=Seq.call (by rfl) args w
@[simp] theorem Seq.call116 (args:Array Value) (w:World):(callFunc 116 args).run Seq.prog w= .ok (.enter 116 args) w:=Seq.call (by rfl) args w
@[simp] theorem Seq.call117 (args:Array Value) (w:World):(callFunc 117 args).run Seq.prog w= .ok (.enter 117 args) w:=Seq.call (by rfl) args w
@[simp] theorem Seq.call124 (args:Array Value) (w:World):(callFunc 124 args).run Seq.prog w= .ok (.enter 124 args) w:=Seq.call (by rfl) args w
@[simp] theorem Seq.call126 (args:Array Value) (w:World):(callFunc 126 args).run Seq.prog w= .ok (.enter 126 args) w:=Seq.call (by rfl) args w
@[simp] theorem Seq.call127 (args:Array Value) (w:World):(callFunc 127 args).run Seq.prog w= .ok (.enter 127 args) w:=Seq.call (by rfl) args w
@[simp] theorem Seq.call128 (args:Array Value) (w:World):(callFunc 128 args).run Seq.prog w= .ok (.enter 128 args) w:=Seq.call (by rfl) args w
@[simp] theorem Seq.call140 (args:Array Value) (w:World):(callFunc 140 args).run Seq.prog w= .ok (.enter 140 args) w:=Seq.call (by rfl) args w
@[simp] theorem Seq.call148 (args:Array Value) (w:World):(callFunc 148 args).run Seq.prog w= .ok (.enter 148 args) w:=Seq.call (by rfl) args w
@[simp] theorem Seq.call151 (args:Array Value) (w:World):(callFunc 151 args).run Seq.prog w= .ok (.enter 151 args) w:=Seq.call (by rfl) args w
end Go.Proofs.YtfphigmeppdocaaGreat
