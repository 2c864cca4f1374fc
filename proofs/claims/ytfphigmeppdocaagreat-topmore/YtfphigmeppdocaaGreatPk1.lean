/-
  Several texts in one.
-/
import Derived.Calls
import Derived.Conc.Own
import Derived.Conc.Events
namespace Go.Proofs.YtfphigmeppdocaaGreat
namespace Lo
def dead:Addr:=⟨0,0,some 0⟩
def Plainly (o:Obj):Prop:=(∀a t,o≠ .view a t)∧(∀l,o≠ .loop l)∧∀c t,o≠ .pending c t
def Odd (o:Obj):Prop:=(∃l,o= .loop l)∨∃c t,o= .pending c t
theorem Odd.np {o:Obj} (h:Odd o):¬Plainly o:=by
 rintro ⟨_,h1,h2⟩
 rcases h with ⟨l,e⟩ | ⟨c,t,e⟩
 · exact h1 l e
 · exact h2 c t e
def Pl (o:Obj):Prop:=(∀a t,o≠ .view a t)∧(∀l,o≠ .loop l)∧(∀c t,o≠ .pending c t)∧o≠ .coro none
theorem Pl.pl {o:Obj} (h:Pl o):Plainly o:=⟨h.1,h.2.1,h.2.2.1⟩
structure SBs where
 p:Nat→Prop
 v:Nat→Option Obj
instance:CoeFun SBs (fun _=>Nat→Prop):=⟨SBs.p⟩
def BR (x y:Option Obj):Prop:=(x=y∧∀o,x=some o→Plainly o)∨(∃t a,x=some (.view dead t)∧y=some (.view a t))∨∃o,x=some (.coro none)∧y=some o∧Odd o
structure WR (SB:SBs) (s w:World):Prop where
 size:s.heap.size=w.heap.size
 same:∀b,¬SB b→BR s.heap[b]? w.heap[b]?
 bad:∀b,SB b→∃t c,s.heap[b]? =some (.cells #[] t)∧w.heap[b]? =some (.cells c t)
 old:∀b o v,¬SB b→s.heap[b]? =some o→¬Pl o→SB.v b=some v→w.heap[b]? =some v
def EvOk (SB:SBs) (B:Nat) (e:Event):Prop:=
 e=⟨.mark .noRoom,false,true⟩∨(∃a wr,e=⟨.cell a,wr,false⟩∧a.block<B∧¬SB a.block)∨∃r wr sy,e=⟨.obj r,wr,sy⟩∧r<B
theorem EvOk.mono {SB:SBs} {B C:Nat} (h:B≤C) {e:Event}:EvOk SB B e→EvOk SB C e:=by
 rintro (rfl | ⟨a,wr,rfl,h1,h2⟩ | ⟨r,wr,sy,rfl,h1⟩)
 · exact .inl rfl
 · exact .inr (.inl ⟨a,wr,rfl,by omega,h2⟩)
 · exact .inr (.inr ⟨r,wr,sy,rfl,by omega⟩)
structure Kept (s s' :World):Prop where
 dr:s.drawn≤s'.drawn
 tape:s'.tape=s.tape
 os:s'.os=s.os
 out:s'.output=s.output
 size:s.heap.size≤s'.heap.size
theorem Kept.refl (s:World):Kept s s:=⟨Nat.le_refl _,rfl,rfl,rfl,Nat.le_refl _⟩
theorem Kept.trans {a b c:World} (h:Kept a b) (h' :Kept b c):Kept a c:=⟨Nat.le_trans h.dr h'.dr,h'.tape.trans h.tape,h'.os.trans h.os,h'.out.trans h.out,Nat.le_trans h.size h'.size⟩
def Agr (zo:FuncId) (s s' w:World):Prop:=∀i q,(∀j,q≠ .order zo j)→i<s'.drawn-s.drawn→w.tape (w.drawn+i) q=s.tape (s.drawn+i) q
structure Goes2 (SB:SBs) (s s' w w' :World) (u:Array Event):Prop where
 wr:WR SB s' w'
 dr:w'.drawn=w.drawn+(s'.drawn-s.drawn)
 kept:Kept w w'
 bad:∀b,SB b→w'.heap[b]? =w.heap[b]?
 ev:∀e∈u,EvOk SB w'.heap.size e
def DV (s:World):Prop:=∀(b:Nat) (a:Addr) (t:TypeId),s.heap[b]? =some (Obj.view a t)→a=dead
def NL (s:World):Prop:=(∀(b:Nat) (l:Loop),s.heap[b]? ≠some (Obj.loop l))∧∀(b:Nat) (c:Array Value) (t:TypeId),s.heap[b]? ≠some (Obj.pending c t)
def okHalt:Halt→Prop
 | .panic _ | .stuck _=>True
 | .unsupported (.initOrder _)=>False
 | .unsupported _=>True
 | _=>False
structure Sh (SB:SBs) (s:World):Prop where
 dv:DV s
 nl:NL s
 bad:∀b,SB b→∃t,s.heap[b]? =some (.cells #[] t)
def Okk (zo:FuncId) (S R:Program) (SB:SBs) {α β:Type} (Q:α→β→Prop) (x:Sem α) (y:Sem β):Prop:=
 ∀s,Sh SB s→(∀h s',x.run S s= .halt h s' →okHalt h)∧∀a s',x.run S s= .ok a s' →Kept s s' ∧Sh SB s' ∧(∃b,Q a b)∧∀w es,WR SB s w→Agr zo s s' w→∃b w' u,y.runT R w es=(.ok b w',es++u)∧Q a b∧Goes2 SB s s' w w' u
section
variable {zo:FuncId} {S R:Program} {SB:SBs} {α β γ δ:Type} {Q:α→β→Prop} {Q' :γ→δ→Prop}
theorem Okk.bind {x:Sem α} {y:Sem β} {f:α→Sem γ} {g:β→Sem δ} (h:Okk zo S R SB Q x y) (hk:∀a b,Q a b→Okk zo S R SB Q' (f a) (g b)):Okk zo S R SB Q' (x >>= f) (y >>= g):=by
 intro s hv
 refine ⟨fun hl s' hr=> ?_,fun c s' hr=> ?_⟩
 · have hr' :(x.bind f).run S s= .halt hl s':=hr
   rw [Sem.run_bind'] at hr'
   cases hx:x.run S s with
   | halt z s1=>rw [hx] at hr';cases hr';exact (h s hv).1 _ _ hx
   | ok a s1=>
     rw [hx] at hr'
     obtain ⟨_,v1,⟨b0,hb0⟩,_⟩:=(h s hv).2 a s1 hx
     exact (hk a b0 hb0 s1 v1).1 _ _ hr'
 have hr' :(x.bind f).run S s= .ok c s':=hr
 rw [Sem.run_bind'] at hr'
 cases hx:x.run S s with
 | halt z s1=>rw [hx] at hr';cases hr'
 | ok a s1=>
   rw [hx] at hr'
   obtain ⟨k1,v1,⟨b0,hb0⟩,h1⟩:=(h s hv).2 a s1 hx
   obtain ⟨k2,v2,hd,_⟩:=(hk a b0 hb0 s1 v1).2 c s' hr'
   refine ⟨k1.trans k2,v2,hd,fun w es hw hA=> ?_⟩
   have d1:=k1.dr
   have d2:=k2.dr
   obtain ⟨b,w1,u,r1,q1,g1⟩:=h1 w es hw fun i q hz hi=>hA i q hz (by omega)
   obtain ⟨_,_,_,h2⟩:=(hk a b q1 s1 v1).2 c s' hr'
   obtain ⟨d,w',u',r2,q2,g2⟩:=h2 w1 (es++u) g1.wr fun i q hz hi=>by
     have:=hA (s1.drawn-s.drawn+i) q hz (by omega)
     rw [g1.kept.tape,g1.dr,Nat.add_assoc,this,k1.tape,show s.drawn+(s1.drawn-s.drawn+i)=s1.drawn+i by omega]
   refine ⟨d,w',u++u',?_,q2,g2.wr,?_,g1.kept.trans g2.kept,fun b hb=>(g2.bad b hb).trans (g1.bad b hb),fun e he=> ?_⟩
   · show (y.bind g).runT R w es=_
     rw [Sem.runT_bind',r1]
     simp only [r2,Array.append_assoc]
   · rw [g2.dr,g1.dr];omega
   · rcases Array.mem_append.1 he with he | he
     · exact (g1.ev e he).mono g2.kept.size
     · exact g2.ev e he
theorem Okk.on {x:Sem α} {f:α→Sem γ} {g:α→Sem δ} (h:Okk zo S R SB Eq x x) (hk:∀a,Okk zo S R SB Q' (f a) (g a)):Okk zo S R SB Q' (x >>= f) (x >>= g):=h.bind fun a b e=>by subst e;exact hk a
theorem Goes2.refl {s w:World} (h:WR SB s w):Goes2 SB s s w w #[]:=⟨h,by omega,.refl w,fun _ _=>rfl,by simp⟩
theorem pure_ok {a:α} {b:β} (h:Q a b):Okk zo S R SB Q (pure a) (pure b):=by
 intro s hv
 refine ⟨fun _ _ hr=>(by cases hr),fun a' s' hr=> ?_⟩
 cases hr
 exact ⟨.refl s,hv,⟨b,h⟩,fun w es hw _=>⟨b,w,#[],by simp only [Array.append_empty];rfl,h,.refl hw⟩⟩
theorem ret_ok (a:α):Okk zo S R SB Eq (pure a) (pure a):=pure_ok rfl
theorem halt_ok {h:Halt} {y:Sem β} (hh:okHalt h):Okk zo S R SB Q (.halt h) y:=fun s _=>⟨fun h' s' hr=>(by cases hr;exact hh),fun a s' hr=>by cases hr⟩
theorem stuck_ok {why:String} {y:Sem β}:Okk zo S R SB Q (stuck why) y:=halt_ok trivial
theorem unsup_ok {u:Unsupported} {y:Sem β} (h:okHalt (.unsupported u):=by trivial):Okk zo S R SB Q (unsupported u) y:=halt_ok h
def Un (S:Program) (SB:SBs) {α:Type} (x:Sem α):Prop:=∀s,Sh SB s→(∀h s',x.run S s= .halt h s' →okHalt h)∧∀a s',x.run S s= .ok a s' →Sh SB s'
theorem Okk.un {x:Sem α} {y:Sem β} (h:Okk 0 S R SB Q x y):Un S SB x:=fun s hv=>⟨(h s hv).1,fun a s' hr=>((h s hv).2 a s' hr).2.1⟩
theorem Un.bind {x:Sem α} {f:α→Sem γ} (h:Un S SB x) (hk:∀a,Un S SB (f a)):Un S SB (x >>= f):=by
 intro s hv
 have e:(x >>= f).run S s=(x.bind f).run S s:=rfl
 rw [e,Sem.run_bind']
 cases hx:x.run S s with
 | halt z s1=>exact ⟨fun h' s' hr=>by cases hr;exact (h s hv).1 _ _ hx,fun a s' hr=>by cases hr⟩
 | ok a s1=>exact hk a s1 ((h s hv).2 a s1 hx)
def Nev (S:Program) (SB:SBs) {α:Type} (x:Sem α):Prop:=∀s,Sh SB s→∃h s',x.run S s= .halt h s' ∧okHalt h
theorem Nev.okk {x:Sem α} {y:Sem β} (h:Nev S SB x):Okk zo S R SB Q x y:=fun s hv=>by
 obtain ⟨z,s1,h1,h2⟩:=h s hv
 exact ⟨fun h' s' hr=>by rw [h1] at hr;cases hr;exact h2,fun a s' hr=>by rw [h1] at hr;cases hr⟩
theorem nev_halt (h:Halt) (hh:okHalt h:=by trivial):Nev S SB (.halt h:Sem α):=fun s _=>⟨h,s,rfl,hh⟩
theorem Nev.bind {x:Sem α} {f:α→Sem γ} (hx:Un S SB x) (h:∀a,Nev S SB (f a)):Nev S SB (x >>= f):=by
 intro s hv
 have e:(x >>= f).run S s=(x.bind f).run S s:=rfl
 rw [e,Sem.run_bind']
 cases hr:x.run S s with
 | halt z s1=>exact ⟨z,s1,rfl,(hx s hv).1 _ _ hr⟩
 | ok a s1=>exact h a s1 ((hx s hv).2 a s1 hr)
theorem Nev.left {x:Sem α} {f:α→Sem γ} (h:Nev S SB x):Nev S SB (x >>= f):=by
 intro s hv
 obtain ⟨z,s1,h1,h2⟩:=h s hv
 have e:(x >>= f).run S s=(x.bind f).run S s:=rfl
 rw [e,Sem.run_bind',h1]
 exact ⟨z,s1,rfl,h2⟩
theorem program_ok:Okk zo S R SB (fun p q=>p=S∧q=R) program program:=by
 intro s hv
 refine ⟨fun _ _ hr=>(by cases hr),fun a s' hr=> ?_⟩
 cases hr
 exact ⟨.refl s,hv,⟨R,rfl,rfl⟩,fun w es hw _=>⟨R,w,#[],by simp only [Array.append_empty];rfl,⟨rfl,rfl⟩,.refl hw⟩⟩
theorem WR.cell {s w:World} (h:WR SB s w) {a:Addr} {v:Value} (hc:s.cell? a=some v):¬SB a.block∧w.heap[a.block]? =s.heap[a.block]? ∧w.cell? a=some v:=by
 have hb:¬SB a.block:=fun hb=>by
   obtain ⟨t,c,h1,_⟩:=h.bad _ hb
   simp [World.cell?,h1] at hc
 rcases h.same _ hb with ⟨h1,_⟩ | ⟨t,a',h1,_⟩ | ⟨l,h1,_⟩
 · exact ⟨hb,h1.symm,by rw [World.cell?,←h1];exact hc⟩
 · simp [World.cell?,h1] at hc
 · simp [World.cell?,h1] at hc
theorem lt_cell {s:World} {a:Addr} {v:Value} (hc:s.cell? a=some v):a.block<s.heap.size:=by
 rcases Nat.lt_or_ge a.block s.heap.size with h | h
 · exact h
 · simp [World.cell?,Array.getElem?_eq_none h] at hc
theorem WR.dv {s w:World} (h:WR SB s w):DV s:=by
 intro b a t hb
 by_cases hs:SB b
 · obtain ⟨_,_,h1,_⟩:=h.bad b hs
   rw [h1] at hb;cases hb
 · rcases h.same b hs with ⟨_,h2⟩ | ⟨t',a',h1,_⟩ | ⟨l,h1,_⟩
   · exact absurd rfl ((h2 _ hb).1 a t)
   · rw [h1] at hb;cases hb;rfl
   · rw [h1] at hb;cases hb
theorem WR.nl {s w:World} (h:WR SB s w):NL s:=by
 have key:∀(b:Nat) (o:Obj),s.heap[b]? =some o→(∀c t z,o≠ .cells c t z)→(∀a t,o≠ .view a t)→(∀c,o≠ .coro c)→Plainly o:=by
   intro b o hb h1 h2 h3
   by_cases hs:SB b
   · obtain ⟨_,_,e,_⟩:=h.bad b hs
     rw [hb] at e;cases e;exact absurd rfl (h1 _ _ _)
   · rcases h.same b hs with ⟨_,e⟩ | ⟨_,_,e,_⟩ | ⟨_,e,_⟩
     · exact e o hb
     · rw [hb] at e;cases e;exact absurd rfl (h2 _ _)
     · rw [hb] at e;cases e;exact absurd rfl (h3 _)
 exact ⟨fun b l hb=>(key b _ hb (by simp) (by simp) (by simp)).2.1 l rfl,fun b c t hb=>(key b _ hb (by simp) (by simp) (by simp)).2.2 c t rfl⟩
theorem WR.sh {s w:World} (h:WR SB s w):Sh SB s:=⟨h.dv,h.nl,fun b hb=>let ⟨t,_,h1,_⟩:=h.bad b hb;⟨t,h1⟩⟩
theorem no_far {p:Program} {s:World} (h:DV s) (hn:NL s) (a:Addr) (m:Bool):∃e,s.farLoad p a m= .error e∧okHalt e:=by
 unfold World.farLoad
 cases hb:s.heap[a.block]? with
 | none=>exact ⟨_,rfl,by simp [World.noCell,hb,okHalt]⟩
 | some o=>
   cases o with
   | view at_ u=>
     have:=h _ _ _ hb
     subst this
     exact ⟨.unsupported (.unsafePointer "memory seen as another type: a place without cells"), by simp [World.viewLoad, World.seen, dead]; rfl, trivial⟩
   | pending c t=>exact absurd hb (hn.2 _ _ _)
   | _=>exact ⟨_,rfl,by simp [World.noCell,hb,okHalt]⟩
theorem no_farS {p:Program} {s:World} (h:DV s) (hn:NL s) (a:Addr) (v:Value) (m:Bool):∃e,s.farStore p a v m= .error e∧okHalt e:=by
 unfold World.farStore
 cases hb:s.heap[a.block]? with
 | none=>exact ⟨_,rfl,by simp [World.noCell,hb,okHalt]⟩
 | some o=>
   cases o with
   | view at_ u=>
     have:=h _ _ _ hb
     subst this
     by_cases ht:tight p p.depth u=true
     · exact ⟨.unsupported (.unsafePointer "memory seen as another type: a place without cells"), by simp [World.viewStore, World.seen, dead, ht]; rfl, trivial⟩
     · exact ⟨.unsupported (.unsafePointer "memory seen as another type: a store through a type with padding"), by simp [World.viewStore, ht]; rfl, trivial⟩
   | pending c t=>exact absurd hb (hn.2 _ _ _)
   | _=>exact ⟨_,rfl,by simp [World.noCell,hb,okHalt]⟩
end
end Lo
end Go.Proofs.YtfphigmeppdocaaGreat
namespace Go.Proofs.YtfphigmeppdocaaGreat
namespace Lo
section
variable {zo:FuncId} {S R:Program} {SB:SBs} {α β γ δ:Type}
theorem load_ok (a:Addr):Okk zo S R SB Eq (load a) (load a):=by
 intro s hv
 simp only [load,Sem.run]
 cases hc:s.cell? a with
 | none=>
   obtain ⟨e,he,ho⟩:=no_far (p:=S) hv.dv hv.nl a (Mode.plain==Mode.atomic)
   simp only [he]
   exact ⟨fun h s' hr=>(by cases hr;exact ho),fun v s' hr=>by cases hr⟩
 | some u=>
   refine ⟨fun h s' hr=>(by cases hr),fun v s' hr=> ?_⟩
   cases hr
   refine ⟨.refl s,hv,⟨_,rfl⟩,fun w es hw _=> ?_⟩
   obtain ⟨hb,_,hc'⟩:=hw.cell hc
   refine ⟨u,w,#[⟨.cell a,false,false⟩],?_,rfl,hw,by omega,.refl w,fun _ _=>rfl,fun e he=> ?_⟩
   · simp only [Sem.runT,hc']
     rw [show (Mode.plain==Mode.atomic)=false from rfl,Array.push_eq_append]
   · simp at he;subst he
     exact .inr (.inl ⟨a,false,rfl,lt_cell hc',hb⟩)
def Single:Value→Prop
 | .agg _ | .tuple _=>False
 | _=>True
theorem run_store {α:Type} (p:Program) {v:Value} (hv:Single v) (m:Mode) (a:Addr) (k:Sem α) (w:World):
   (Sem.store m a v k).run p w=match w.cell? a with
     | some _ => if w.frozen? a then .halt (.unsupported (.unsafePointer "a write to bytes that a string shares")) w else k.run p (w.setCell a v)
     | none=>match w.farStore p a v (m== .atomic) with
       | .ok (w,_)=>k.run p w
       | .error h=> .halt h w:=by
 cases v<;>first | exact hv.elim | rfl
theorem runT_store {α:Type} (p:Program) {v:Value} (hv:Single v) (m:Mode) (a:Addr) (k:Sem α) (w:World) (es:Array Event):
   (Sem.store m a v k).runT p w es=match w.cell? a with
     | some _=>
       if w.frozen? a then (.halt (.unsupported (.unsafePointer "a write to bytes that a string shares")) w, es)
       else k.runT p (w.setCell a v) (es.push ⟨.cell a,true,m== .atomic⟩)
     | none=>match w.farStore p a v (m== .atomic) with
       | .ok (w,touched)=>k.runT p w (es++touched.toArray.map (⟨.cell ·,true,m== .atomic⟩))
       | .error h=>(.halt h w,es):=by
 cases v<;>first | exact hv.elim | rfl
theorem modify_get {h:Array Obj} {b b' :Nat} {f:Obj→Obj}:(h.modify b f)[b']? =if b=b' then h[b']?.map f else h[b']? :=by
 rw [Array.getElem?_modify]
def Keeps (f:Obj→Obj):Prop:=∀o:Obj,f o=o∨∃c t z c' t' z',o= .cells c t z∧f o= .cells c' t' z'
theorem WR.modify {s w:World} (h:WR SB s w) {b:Nat} (hb:¬SB b) {f:Obj→Obj} (hf:Keeps f):
   WR SB {s with heap:=s.heap.modify b f } {w with heap:=w.heap.modify b f }:=by
 refine ⟨by simp [h.size],fun b' hb' => ?_,fun b' hb' => ?_,fun b' o v hb' hs hp hv=> ?_⟩
 · simp only [modify_get]
   by_cases e:b=b'
   · subst e
     simp only [if_pos]
     rcases h.same b hb with ⟨h1,h2⟩ | ⟨t,a',h1,h2⟩ | ⟨o,h1,h2,h3⟩
     · rw [←h1]
       cases hx:s.heap[b]? with
       | none=>exact .inl ⟨rfl,by simp⟩
       | some o=>
         simp only [Option.map_some]
         rcases hf o with e | ⟨_,_,_,_,_,_,_,e⟩
         · rw [e];exact .inl ⟨rfl,fun p hp=>by cases hp;exact h2 _ hx⟩
         · rw [e];exact .inl ⟨rfl,fun p hp=>by cases hp;exact ⟨by simp,by simp,by simp⟩⟩
     · rw [h1,h2]
       simp only [Option.map_some]
       rcases hf (.view dead t) with e | ⟨_,_,_,_,_,_,e,_⟩
       · rcases hf (.view a' t) with e' | ⟨_,_,_,_,_,_,e',_⟩
         · rw [e,e'];exact .inr (.inl ⟨_,_,rfl,rfl⟩)
         · cases e'
       · cases e
     · rw [h1,h2]
       simp only [Option.map_some]
       rcases hf (.coro none) with e | ⟨_,_,_,_,_,_,e,_⟩
       · rcases hf o with e' | ⟨_,_,_,_,_,_,e',_⟩
         · rw [e,e'];exact .inr (.inr ⟨_,rfl,rfl,h3⟩)
         · subst e';exact absurd ⟨by simp,by simp,by simp⟩ h3.np
       · cases e
   · simp only [if_neg e]
     exact h.same b' hb'
 · have e:b≠b':=fun e=>hb (e▸hb')
   simp only [modify_get,if_neg e]
   exact h.bad b' hb'
 · simp only [modify_get] at hs ⊢
   by_cases e:b=b'
   · subst e
     rw [if_pos rfl] at hs ⊢
     cases hx:s.heap[b]? with
     | none=>rw [hx] at hs;cases hs
     | some o1=>
       rw [hx] at hs
       simp only [Option.map_some,Option.some.injEq] at hs
       have e1:f o1=o1:=by
         rcases hf o1 with e | ⟨_,_,_,_,_,_,_,e⟩
         · exact e
         · rw [←hs,e] at hp
           exact absurd ⟨by simp,by simp,by simp,by simp⟩ hp
       rw [e1] at hs
       subst hs
       have hw:=h.old b o1 v hb hx hp hv
       rw [hw]
       have nc:(∀c t z,v≠ .cells c t z)→(some v).map f=some v:=fun h=>by
         rcases hf v with e | ⟨_,_,_,_,_,_,e,_⟩
         · simp [e]
         · exact absurd e (h _ _ _)
       rcases h.same b hb with ⟨h1,h2⟩ | ⟨t,a',h1,h2⟩ | ⟨o,h1,h2,h3⟩
       · rw [hx,hw] at h1
         cases h1
         simp [e1]
       · rw [hw] at h2;cases h2;exact nc (by simp)
       · rw [hw] at h2;cases h2
         exact nc fun c t z e=>h3.np (by subst e;exact ⟨by simp,by simp,by simp⟩)
   · rw [if_neg e] at hs ⊢
     exact h.old b' o v hb' hs hp hv
theorem sh_modify {s:World} (h:Sh SB s) {b:Nat} (hb:¬SB b) {f:Obj→Obj} (hf:Keeps f):Sh SB {s with heap:=s.heap.modify b f }:=by
 have key:∀(b' :Nat) (o:Obj),(∀c t z,o≠ .cells c t z)→(s.heap.modify b f)[b']? =some o→s.heap[b']? =some o:=by
   intro b' o ho hb'
   rw [modify_get] at hb'
   split at hb'
   · cases hx:s.heap[b']? with
     | none=>rw [hx] at hb';cases hb'
     | some p=>
       rw [hx] at hb'
       simp only [Option.map_some,Option.some.injEq] at hb'
       rcases hf p with e | ⟨_,_,_,_,_,_,_,e⟩
       · rw [e] at hb';rw [hb']
       · rw [e] at hb';exact absurd hb'.symm (ho _ _ _)
   · exact hb'
 exact ⟨fun b' a t hb' =>h.dv b' a t (key b' _ (by simp) hb'),⟨fun b' l hb' =>h.nl.1 b' l (key b' _ (by simp) hb'),fun b' c t hb' =>h.nl.2 b' c t (key b' _ (by simp) hb')⟩,fun b' hb' =>by
   simp only [modify_get]
   rw [if_neg (fun e:b=b' =>hb (e▸hb'))]
   exact h.bad b' hb'⟩
theorem Sh.cell {s:World} (h:Sh SB s) {a:Addr} {v:Value} (hc:s.cell? a=some v):¬SB a.block:=fun hb=>by
 obtain ⟨t,h1⟩:=h.bad _ hb
 simp [World.cell?,h1] at hc
theorem store_ok (a:Addr) (v:Value):Okk zo S R SB Eq (store a v) (store a v):=by
 intro s hv
 by_cases hs:Single v
 · simp only [store]
   rw [run_store _ hs]
   cases hc:s.cell? a with
   | none=>
     obtain ⟨e,he,ho⟩:=no_farS (p:=S) hv.dv hv.nl a v (Mode.plain==Mode.atomic)
     simp only [he]
     exact ⟨fun h s' hr=>(by cases hr;exact ho),fun v s' hr=>by cases hr⟩
   | some u=>
     simp only
     cases hz:s.frozen? a with
     | true=>exact ⟨fun h s' hr=>(by cases hr;trivial),fun v s' hr=>by cases hr⟩
     | false=>
       simp only [Bool.false_eq_true,if_false,Sem.run]
       refine ⟨fun h s' hr=>(by cases hr),fun x s' hr=> ?_⟩
       cases hr
       have f1:Keeps fun o=>match o with | Obj.cells c elem frozen=>Obj.cells (if a.spot.isSome then c else c.setIfInBounds a.off v) elem frozen | o=>o:=by
         intro o;cases o<;>first | exact .inl rfl | exact .inr ⟨_,_,_,_,_,_,rfl,rfl⟩
       refine ⟨⟨Nat.le_refl _,rfl,rfl,rfl,by simp [World.setCell]⟩,sh_modify hv (hv.cell hc) f1,⟨(),by trivial⟩,fun w es hw _=> ?_⟩
       obtain ⟨hb,he,hc'⟩:=hw.cell hc
       have hz' :w.frozen? a=false:=by unfold World.frozen?; rw [he];exact hz
       refine ⟨(),w.setCell a v,#[⟨.cell a,true,false⟩],?_,by trivial,hw.modify hb f1,by simp [World.setCell],⟨Nat.le_refl _,rfl,rfl,rfl,by simp [World.setCell]⟩,fun b hb' => ?_,fun e he=> ?_⟩
       · rw [runT_store _ hs,hc']
         simp only [hz',Bool.false_eq_true,if_false,Sem.runT]
         rw [show (Mode.plain==Mode.atomic)=false from rfl,Array.push_eq_append]
       · simp only [World.setCell,modify_get]
         rw [if_neg (fun e:a.block=b=>hb (e▸hb'))]
       · simp at he;subst he
         exact .inr (.inl ⟨a,true,rfl,by simp [World.setCell];exact lt_cell hc',hb⟩)
 · cases v<;>first | exact absurd trivial hs | exact ⟨fun h s' hr=>(by cases hr;trivial),fun x s' hr=>by cases hr⟩
theorem WR.push {s w:World} (h:WR SB s w) {o:Obj} (ho:Pl o):WR SB {s with heap:=s.heap.push o } {w with heap:=w.heap.push o }:=by
 refine ⟨by simp [h.size],fun b hb=> ?_,fun b hb=> ?_,fun b p v hb hs hp hv=> ?_⟩
 · simp only [Array.getElem?_push,h.size]
   split
   · exact .inl ⟨rfl,fun p e=>by cases e;exact ho.pl⟩
   · exact h.same b hb
 · obtain ⟨t,c,h1,h2⟩:=h.bad b hb
   have l1:=(Array.getElem?_eq_some_iff.1 h1).1
   have l2:=(Array.getElem?_eq_some_iff.1 h2).1
   exact ⟨t,c,by simp only [Array.getElem?_push];rw [if_neg (by omega)];exact h1,by simp only [Array.getElem?_push];rw [if_neg (by omega)];exact h2⟩
 · simp only [Array.getElem?_push] at hs ⊢
   split at hs
   · cases hs;exact absurd ho hp
   · rename_i e
     rw [if_neg (by rw [←h.size];exact e)]
     exact h.old b p v hb hs hp hv
theorem sh_push {s:World} (h:Sh SB s) {o:Obj} (ho:Plainly o):Sh SB {s with heap:=s.heap.push o }:=by
 have key:∀(b:Nat) (p:Obj),¬Plainly p→(s.heap.push o)[b]? =some p→s.heap[b]? =some p:=by
   intro b p hp hb
   rw [Array.getElem?_push] at hb
   split at hb
   · cases hb;exact absurd ho hp
   · exact hb
 refine ⟨fun b a t hb=>h.dv b a t (key b _ (fun x=>x.1 a t rfl) hb),⟨fun b l hb=>h.nl.1 b l (key b _ (fun x=>x.2.1 l rfl) hb),fun b c t hb=>h.nl.2 b c t (key b _ (fun x=>x.2.2 c t rfl) hb)⟩,fun b hb=> ?_⟩
 obtain ⟨t,h1⟩:=h.bad b hb
 have l1:=(Array.getElem?_eq_some_iff.1 h1).1
 exact ⟨t,by simp only [Array.getElem?_push];rw [if_neg (by omega)];exact h1⟩
theorem WR.lt {s w:World} (h:WR SB s w) {b:Nat} (hb:SB b):b<s.heap.size:=by
 obtain ⟨_,_,h1,_⟩:=h.bad b hb
 exact (Array.getElem?_eq_some_iff.1 h1).1
theorem new_ok {o:Obj} (ho:Pl o):Okk zo S R SB Eq (newObj o) (newObj o):=by
 intro s hv
 refine ⟨fun h s' hr=>(by cases hr),fun x s' hr=> ?_⟩
 cases hr
 refine ⟨⟨Nat.le_refl _,rfl,rfl,rfl,by simp⟩,sh_push hv ho.pl,⟨_,rfl⟩,fun w es hw _=>⟨w.heap.size,{w with heap:=w.heap.push o },#[],by simp only [Array.append_empty];rfl,hw.size,hw.push ho,by simp,⟨Nat.le_refl _,rfl,rfl,rfl,by simp⟩,fun b hb=> ?_,by simp⟩⟩
 have:=hw.lt hb
 have e:=hw.size
 simp only [Array.getElem?_push]
 rw [if_neg (by omega)]
def ObjR (a b:Obj):Prop:=(a=b∧Plainly a)∨(∃t x t',a= .view dead t∧b= .view x t')∨∃o,a= .coro none∧b=o∧Odd o
theorem getObj_ok (r:Nat):Okk zo S R SB ObjR (getObj r) (getObj r):=by
 intro s hv
 refine ⟨fun h s' hr=> ?_,fun x s' hr=> ?_⟩
 · simp only [getObj,Sem.run] at hr
   cases hb:s.heap[r]? with
   | none=>rw [hb] at hr;cases hr;trivial
   | some o=>rw [hb] at hr;cases o<;>first | (cases hr;trivial) | cases hr
 have hr' :(match s.heap[r]? with
   | some (.cells ..) => (Result.halt (.stuck "getObj: a row of cells") s : Result Obj)
   | some o=> .ok o s
   | none => .halt (.stuck "getObj: no such block") s) = .ok x s' := by
   simp only [getObj,Sem.run] at hr
   cases hb:s.heap[r]? with
   | none=>rw [hb] at hr;cases hr
   | some o=>rw [hb] at hr;cases o<;>(try simp only at hr)<;>exact hr
 clear hr
 cases hb:s.heap[r]? with
 | none=>rw [hb] at hr';exact nomatch hr'
 | some o=>
   have ho:(∀c t f,o≠ .cells c t f)∧x=o∧s' =s:=by
     rw [hb] at hr'
     cases o<;>simp only [Result.ok.injEq,reduceCtorEq] at hr' <;>exact ⟨by intros;simp,hr'.1.symm,hr'.2.symm⟩
   obtain ⟨hnc,rfl,rfl⟩:=ho
   refine ⟨.refl _,hv,?_,fun w es hw _=> ?_⟩
   · cases x with
     | view a t=>have:=hv.dv _ _ _ hb;subst this;exact ⟨_,.inr (.inl ⟨t,dead,t,rfl,rfl⟩)⟩
     | loop l=>exact absurd hb (hv.nl.1 _ _)
     | pending c t=>exact absurd hb (hv.nl.2 _ _ _)
     | _=>exact ⟨_,.inl ⟨rfl,by simp,by simp,by simp⟩⟩
   · have hn:¬SB r:=fun h=>by
       obtain ⟨t,c,h1,_⟩:=hw.bad r h
       rw [hb] at h1;cases h1
       exact hnc _ _ _ rfl
     have key:∀y:Obj,w.heap[r]? =some y→(∀c t f,y≠ .cells c t f)→ObjR x y→∃b w' u,(getObj r).runT R w es=(.ok b w',es++u)∧ObjR x b∧Goes2 SB s' s' w w' u:=by
       intro y hy hyc hxy
       refine ⟨y,w,#[⟨.obj r,false,y.isChan⟩],?_,hxy,hw,by omega,.refl w,fun _ _=>rfl,fun e he=> ?_⟩
       · simp only [getObj,Sem.runT,hy]
         cases y<;>first | exact absurd rfl (hyc _ _ _) | (simp only [Array.push_eq_append])
       · simp at he;subst he
         exact .inr (.inr ⟨r,false,_,rfl,(Array.getElem?_eq_some_iff.1 hy).1⟩)
     rcases hw.same r hn with ⟨h1,h2⟩ | ⟨t,a',h1,h2⟩ | ⟨o,h1,h2,h3⟩
     · exact key x (h1▸hb) hnc (.inl ⟨rfl,h2 _ hb⟩)
     · rw [hb] at h1;cases h1
       exact key _ h2 (by simp) (.inr (.inl ⟨_,_,_,rfl,rfl⟩))
     · rw [hb] at h1;cases h1
       have hc:∀c t z,o≠ .cells c t z:=fun c t z e=>h3.np (by subst e;exact ⟨by simp,by simp,by simp⟩)
       exact key _ h2 hc (.inr (.inr ⟨_,rfl,rfl,h3⟩))
theorem setIf_get {h:Array Obj} {b b' :Nat} {o:Obj} (hb:b<h.size):(h.setIfInBounds b o)[b']? =if b=b' then some o else h[b']? :=by
 rw [Array.getElem?_setIfInBounds]
 split
 · subst_vars;simp
 · rfl
theorem setObj_ok (r:Nat) {o:Obj} (ho:Pl o):Okk zo S R SB Eq (setObj r o) (setObj r o):=by
 intro s hv
 refine ⟨fun h s' hr=> ?_,fun x s' hr=> ?_⟩
 · simp only [setObj,Sem.run] at hr
   cases hb:s.heap[r]? with
   | none=>rw [hb] at hr;cases hr;trivial
   | some p=>rw [hb] at hr;cases p<;>first | (cases hr;trivial) | cases hr
 cases hb:s.heap[r]? with
 | none=>simp only [setObj,Sem.run,hb] at hr;cases hr
 | some p=>
   have hp:(∀c t f,p≠ .cells c t f)∧s' ={s with heap:=s.heap.setIfInBounds r o }:=by
     simp only [setObj,Sem.run,hb] at hr
     cases p<;>simp only [Result.ok.injEq,reduceCtorEq] at hr<;>exact ⟨by intros;simp,hr.2.symm⟩
   obtain ⟨hnc,rfl⟩:=hp
   have hlt:r<s.heap.size:=(Array.getElem?_eq_some_iff.1 hb).1
   refine ⟨⟨Nat.le_refl _,rfl,rfl,rfl,by simp⟩,?_,⟨_,rfl⟩,fun w es hw _=> ?_⟩
   · have key:∀(b:Nat) (p:Obj),¬Plainly p→(s.heap.setIfInBounds r o)[b]? =some p→s.heap[b]? =some p:=by
       intro b p hp hb'
       rw [setIf_get hlt] at hb'
       split at hb'
       · cases hb';exact absurd ho.pl hp
       · exact hb'
     refine ⟨fun b a t hb' =>hv.dv b a t (key b _ (fun x=>x.1 a t rfl) hb'),⟨fun b l hb' =>hv.nl.1 b l (key b _ (fun x=>x.2.1 l rfl) hb'),fun b c t hb' =>hv.nl.2 b c t (key b _ (fun x=>x.2.2 c t rfl) hb')⟩,fun b hb' => ?_⟩
     obtain ⟨t,h1⟩:=hv.bad b hb'
     refine ⟨t,?_⟩
     simp only [setIf_get hlt]
     rw [if_neg (fun e:r=b=> ?_)]
     · exact h1
     · subst e
       rw [hb] at h1;cases h1
       exact hnc _ _ _ rfl
   · have hn:¬SB r:=fun h=>by
       obtain ⟨t,c,h1,_⟩:=hw.bad r h
       rw [hb] at h1;cases h1
       exact hnc _ _ _ rfl
     have hlt' :r<w.heap.size:=by rw [←hw.size];exact hlt
     obtain ⟨y,hy,hyc⟩:∃y,w.heap[r]? =some y∧∀c t f,y≠ .cells c t f:=by
       rcases hw.same r hn with ⟨h1,h2⟩ | ⟨t,a',h1,h2⟩ | ⟨o,h1,h2,h3⟩
       · exact ⟨p,h1▸hb,hnc⟩
       · exact ⟨_,h2,by simp⟩
       · exact ⟨_,h2,fun c t z e=>h3.np (by subst e;exact ⟨by simp,by simp,by simp⟩)⟩
     refine ⟨(),{w with heap:=w.heap.setIfInBounds r o },#[⟨.obj r,true,o.isChan⟩],?_,rfl,⟨by simp [hw.size],fun b hb' => ?_,fun b hb' => ?_,fun b p' v hb' hs hp hv' => ?_⟩,by simp,⟨Nat.le_refl _,rfl,rfl,rfl,by simp⟩,fun b hb' => ?_,fun e he=> ?_⟩
     · simp only [setObj,Sem.runT,hy]
       cases y<;>first | exact absurd rfl (hyc _ _ _) | (simp only [Array.push_eq_append])
     · simp only [setIf_get hlt,setIf_get hlt']
       split
       · exact .inl ⟨rfl,fun p e=>by cases e;exact ho.pl⟩
       · exact hw.same b hb'
     · have e:r≠b:=fun e=>hn (e▸hb')
       simp only [setIf_get hlt,setIf_get hlt',if_neg e]
       exact hw.bad b hb'
     · simp only [setIf_get hlt,setIf_get hlt'] at hs ⊢
       split at hs
       · cases hs;exact absurd ho hp
       · rename_i e
         rw [if_neg e]
         exact hw.old b p' v hb' hs hp hv'
     · have e:r≠b:=fun e=>hn (e▸hb')
       simp only [setIf_get hlt',if_neg e]
     · simp at he;subst he
       exact .inr (.inr ⟨r,true,_,rfl,by simpa using hlt'⟩)
theorem choose_ok (q:Question) (hz:∀j,q≠ .order zo j:=by intro j e;cases e):Okk zo S R SB Eq (choose q) (choose q):=by
 intro s hv
 refine ⟨fun h s' hr=> ?_,fun x s' hr=> ?_⟩
 · simp only [choose,Sem.run] at hr
   split at hr<;>cases hr
 by_cases hq:q.forced=true
 · simp only [choose,Sem.run,hq,if_true] at hr
   cases hr
   exact ⟨.refl s,hv,⟨_,rfl⟩,fun w es hw _=>⟨0,w,#[],by simp only [choose,Sem.runT,hq,if_true,Array.append_empty],rfl,.refl hw⟩⟩
 · simp only [choose,Sem.run,hq] at hr
   cases hr
   refine ⟨⟨by simp,rfl,rfl,rfl,Nat.le_refl _⟩,⟨hv.dv,hv.nl,hv.bad⟩,⟨_,rfl⟩,fun w es hw hA=>⟨_,{w with drawn:=w.drawn+1 },#[],by simp only [choose,Sem.runT,hq,Array.append_empty];rfl,?_,⟨hw.1,hw.2,hw.3,hw.4⟩,by simp,⟨by simp,rfl,rfl,rfl,Nat.le_refl _⟩,fun _ _=>rfl,by simp⟩⟩
   have:=hA 0 q hz (by simp)
   simp only [Nat.add_zero] at this
   rw [this]
theorem room_ok:Okk zo S R SB Eq (mark .noRoom) (mark .noRoom):=by
 intro s hv
 refine ⟨fun h s' hr=>(by cases hr),fun x s' hr=> ?_⟩
 cases hr
 exact ⟨.refl s,hv,⟨_,rfl⟩,fun w es hw _=>⟨(),w,#[⟨.mark .noRoom,false,true⟩],by simp only [mark,Sem.runT,Array.push_eq_append],rfl,hw,by omega,.refl w,fun _ _=>rfl,fun e he=> .inl (by simpa using he)⟩⟩
def ShR (SB:SBs) (r:Nat) (a b:Option (TypeId×Nat)):Prop:=a=b∨(SB r∧∃t n,a=some (t,0)∧b=some (t,n))
theorem shape_ok (r:Nat):Okk zo S R SB (ShR SB r) (shape r) (shape r):=by
 intro s hv
 refine ⟨fun h s' hr=>(by cases hr),fun x s' hr=> ?_⟩
 cases hr
 refine ⟨.refl s,hv,⟨_,.inl rfl⟩,fun w es hw _=>⟨w.shape? r,w,#[],by simp only [Array.append_empty];rfl,?_,.refl hw⟩⟩
 by_cases hb:SB r
 · obtain ⟨t,c,h1,h2⟩:=hw.bad r hb
   exact .inr ⟨hb,t,c.size,by simp [World.shape?,h1],by simp [World.shape?,h2]⟩
 · rcases hw.same r hb with ⟨h1,_⟩ | ⟨t,a',h1,h2⟩ | ⟨o,h1,h2,h3⟩
   · exact .inl (by simp [World.shape?,h1])
   · exact .inl (by simp [World.shape?,h1,h2])
   · refine .inl ?_
     cases o<;>first | (simp [World.shape?,h1,h2];done) | exact absurd ⟨by simp,by simp,by simp⟩ h3.np
def FrR (SB:SBs) (r:Nat) (a b:Bool):Prop:=a=b∧(SB r→a=false)
theorem frozen_ok (a a' :Addr) (h:a=a' ∨(SB a.block∧SB a'.block)):Okk zo S R SB (FrR SB a.block) (frozen a) (frozen a'):=by
 intro s hv
 refine ⟨fun h s' hr=>(by cases hr),fun x s' hr=> ?_⟩
 cases hr
 have f0:SB a.block→s.frozen? a=false:=fun hb=>by
   obtain ⟨t,h1⟩:=hv.bad _ hb
   simp [World.frozen?,h1]
 refine ⟨.refl s,hv,⟨_,rfl,f0⟩,fun w es hw _=>⟨w.frozen? a',w,#[],by simp only [Array.append_empty];rfl,⟨?_,f0⟩,.refl hw⟩⟩
 have bd:∀x:Addr,SB x.block→w.frozen? x=false:=fun x hb=>by
   obtain ⟨t,c,h1,h2⟩:=hw.bad _ hb
   simp [World.frozen?,h2]
 rcases h with rfl | ⟨h1,h2⟩
 · by_cases hb:SB a.block
   · rw [f0 hb,bd a hb]
   · rcases hw.same _ hb with ⟨h1,_⟩ | ⟨t,a',h1,h2⟩ | ⟨o,h1,h2,h3⟩
     · simp [World.frozen?,h1]
     · simp [World.frozen?,h1,h2]
     · cases o<;>first | (simp [World.frozen?,h1,h2];done) | exact absurd ⟨by simp,by simp,by simp⟩ h3.np
 · rw [f0 h1,bd a' h2]
theorem freeze_ok (a:Addr) (n:Nat) (hn:¬SB a.block):Okk zo S R SB Eq (freeze a n) (freeze a n):=by
 intro s hv
 refine ⟨fun h s' hr=>(by cases hr),fun x s' hr=> ?_⟩
 have hr' :s' =s.freeze a n:=by cases hr;rfl
 subst hr'
 by_cases h0:n=0
 · have e0:∀w:World,w.freeze a n=w:=fun w=>by simp [World.freeze,h0]
   rw [e0]
   exact ⟨.refl s,hv,⟨_,rfl⟩,fun w es hw _=>⟨_,w,#[],by simp only [freeze,Sem.runT,e0,Array.append_empty],rfl,.refl hw⟩⟩
 · have f1:Keeps fun o=>match o with | Obj.cells c elem (lo,hi)=>Obj.cells c elem (if lo==hi then (a.off,a.off+n) else (min lo a.off,max hi (a.off+n))) | o=>o:=by
     intro o;cases o<;>first | exact .inl rfl | exact .inr ⟨_,_,_,_,_,_,rfl,rfl⟩
   have e0:∀w:World,w.freeze a n={w with heap:=w.heap.modify a.block fun o=>match o with | Obj.cells c elem (lo,hi)=>Obj.cells c elem (if lo==hi then (a.off,a.off+n) else (min lo a.off,max hi (a.off+n))) | o=>o }:=fun w=>by unfold World.freeze;rw [if_neg h0];rfl
   rw [e0]
   refine ⟨⟨Nat.le_refl _,rfl,rfl,rfl,by simp⟩,sh_modify hv hn f1,⟨_,rfl⟩,fun w es hw _=>⟨_,w.freeze a n,#[],by simp only [freeze,Sem.runT,Array.append_empty],rfl,?_⟩⟩
   rw [e0]
   refine ⟨hw.modify hn f1,by simp,⟨Nat.le_refl _,rfl,rfl,rfl,by simp⟩,fun b hb=> ?_,by simp⟩
   simp only [modify_get]
   rw [if_neg (fun e:a.block=b=>hn (e▸hb))]
end
end Lo
end Go.Proofs.YtfphigmeppdocaaGreat
namespace Go.Proofs.YtfphigmeppdocaaGreat
namespace Lo
structure Sm (S R:Program):Prop where
 info:∀t,S.info? t=R.info? t
 under:∀t,S.underlying t=R.underlying t
 depth:S.depth=R.depth
 eqg:∀t,S.eqGuardType S.depth t=R.eqGuardType R.depth t
 held:∀t,S.stoodInHeld t=R.stoodInHeld t
 follows:∀d,S.follows d=R.follows d
 glob:S.globals=R.globals
 types:S.types=R.types
 boc:∀e o,byteOfCell S S.depth e o=byteOfCell R R.depth e o
 cellsOf:∀e,S.cellsOf e=R.cellsOf e
 cab:∀e n o k,cellAtBytes S S.depth e n o k=cellAtBytes R R.depth e n o k
 bytesOf:∀e,S.bytesOf e=R.bytesOf e
 str:S.rt=R.rt
section
variable {zo:FuncId} {S R:Program} {SB:SBs} {α β γ δ:Type}
theorem typeInfo_ok (H:Sm S R) (t:TypeId):Okk zo S R SB Eq (typeInfo t) (typeInfo t):=by
 unfold typeInfo
 refine program_ok.bind ?_
 rintro _ _ ⟨rfl,rfl⟩
 rw [H.info t]
 split
 · exact ret_ok _
 · exact stuck_ok
theorem under_ok (H:Sm S R) (t:TypeId):Okk zo S R SB Eq (underlying t) (underlying t):=by
 unfold underlying
 refine program_ok.bind ?_
 rintro _ _ ⟨rfl,rfl⟩
 rw [H.under t]
 split
 · exact ret_ok _
 · exact stuck_ok
theorem zero_ok (H:Sm S R) (t:TypeId):Okk zo S R SB Eq (zeroValue t) (zeroValue t):=by
 unfold zeroValue
 refine (typeInfo_ok H t).on fun i=> ?_
 split
 · exact ret_ok _
 · exact unsup_ok
theorem size_ok (H:Sm S R) (t:TypeId):Okk zo S R SB Eq (sizeOf t) (sizeOf t):=(typeInfo_ok H t).on fun _=>ret_ok _
theorem agg_ok (H:Sm S R) (t:TypeId):Okk zo S R SB Eq (isAgg t) (isAgg t):=by
 unfold isAgg
 refine (under_ok H t).on fun d=> ?_
 split<;>exact ret_ok _
theorem loadCells_ok (a:Addr):∀(n i:Nat) (acc:Array Value),Okk zo S R SB Eq (loadCellsFrom a i n acc) (loadCellsFrom a i n acc)
 | 0,_,_=>ret_ok _
 | n+1,_,_=>(load_ok _).on fun _=>loadCells_ok a n _ _
theorem loads_ok (a:Addr) (n:Nat):Okk zo S R SB Eq (loadCells a n) (loadCells a n):=loadCells_ok a n 0 #[]
theorem stores_ok (a:Addr):∀(l:List Value) (i:Nat),Okk zo S R SB Eq (storeCells a l i) (storeCells a l i)
 | [],_=>ret_ok _
 | _::l,_=>(store_ok _ _).on fun _=>stores_ok a l _
theorem loadVar_ok (H:Sm S R) (t:TypeId) (a:Addr):Okk zo S R SB Eq (loadVar t a) (loadVar t a):=by
 unfold loadVar
 refine (agg_ok H t).on fun b=> ?_
 split
 · exact (size_ok H t).on fun n=>(loads_ok a n).on fun _=>ret_ok _
 · exact load_ok a
theorem storeVar_ok (H:Sm S R) (t:TypeId) (a:Addr) (v:Value):Okk zo S R SB Eq (storeVar t a v) (storeVar t a v):=by
 unfold storeVar
 refine (size_ok H t).on fun n=> ?_
 split
 · exact stuck_ok
 · exact stores_ok a _ 0
theorem row_ok (t:TypeId) (c:Array Value):Okk zo S R SB Eq (newRow t c) (newRow t c):=(new_ok ⟨by simp,by simp⟩).on fun _=>ret_ok _
theorem var_ok (t:TypeId) (v:Value):Okk zo S R SB Eq (newVar t v) (newVar t v):=row_ok t _
theorem part_ok (H:Sm S R) (t:TypeId) (c:Array Value) (o:Nat):Okk zo S R SB Eq (part t c o) (part t c o):=by
 unfold part
 refine (agg_ok H t).on fun b=> ?_
 split
 · exact (size_ok H t).on fun _=>ret_ok _
 · split
   · exact ret_ok _
   · exact stuck_ok
theorem intOf_ok (v:Value):Okk zo S R SB Eq (asIntOf v) (asIntOf v):=by
 unfold asIntOf
 split<;>first | exact ret_ok _ | exact unsup_ok | exact stuck_ok
theorem int_ok (v:Value):Okk zo S R SB Eq (asInt v) (asInt v):=(intOf_ok v).on fun _=>ret_ok _
theorem bool_ok (v:Value):Okk zo S R SB Eq (asBool v) (asBool v):=by
 unfold asBool
 split<;>first | exact ret_ok _ | exact stuck_ok
theorem asAgg_ok (v:Value):Okk zo S R SB Eq (asAgg v) (asAgg v):=by
 unfold asAgg
 split<;>first | exact ret_ok _ | exact stuck_ok
theorem sure_ok (v:Value):Okk zo S R SB Eq (Instr.sureAddr v) (Instr.sureAddr v):=by
 unfold Instr.sureAddr
 split<;>first | exact ret_ok _ | exact stuck_ok
theorem elem_ok (H:Sm S R) (t:TypeId):Okk zo S R SB Eq (elemOf t) (elemOf t):=by
 unfold elemOf
 refine (under_ok H t).on fun d=> ?_
 split
 · exact ret_ok _
 · exact stuck_ok
theorem nev_panic (H:Sm S R) (e:RuntimeError):Nev S SB (runtimePanic e:Sem α):=by
 unfold runtimePanic
 refine Nev.bind (program_ok (R:=R)).un fun p=> ?_
 cases e<;>first | exact nev_halt _ | exact Nev.bind (elem_ok H _).un fun _=>Nev.bind (var_ok (R:=R) _ _).un fun _=>nev_halt _
theorem nev_bounds (H:Sm S R) (k:IntKind) (x y:Int) (c:BoundsCode):Nev S SB (boundsPanic k x y c:Sem α):=by
 unfold boundsPanic
 dsimp only
 split
 · exact Nev.bind (Okk.on (choose_ok (R:=R) _) fun _=>ret_ok _).un fun _=>nev_panic H _
 · exact Nev.bind (ret_ok (R:=R) _).un fun _=>nev_panic H _
theorem panic_ok (H:Sm S R) {Q:α -> β -> Prop} {e:RuntimeError} {y:Sem β}:Okk zo S R SB Q (runtimePanic e) y:=(nev_panic H e).okk
theorem bounds_ok (H:Sm S R) {Q:α -> β -> Prop} {k:IntKind} {x z:Int} {c:BoundsCode} {y:Sem β}:Okk zo S R SB Q (boundsPanic k x z c) y:=(nev_bounds H k x z c).okk
theorem stuckb {Q:α -> β -> Prop} {γ:Type} {w:String} {f:γ -> Sem α} {y:Sem β}:Okk zo S R SB Q (stuck w >>= f) y:=(Nev.left (nev_halt _)).okk
theorem room?_ok (n:Nat):Okk zo S R SB Eq (askRoom n) (askRoom n):=by
 unfold askRoom
 split
 · exact room_ok
 · exact ret_ok _
end
end Lo
end Go.Proofs.YtfphigmeppdocaaGreat
namespace Go.Proofs.YtfphigmeppdocaaGreat
namespace Lo
section
variable {zo:FuncId} {S R:Program} {SB:SBs} {α β γ δ:Type}
theorem ShR.isSome {r:Nat} {a b:Option (TypeId×Nat)} (h:ShR SB r a b):a.isSome=b.isSome:=by
 rcases h with rfl | ⟨_,t,n,rfl,rfl⟩<;>rfl
theorem viewAt_ok (r:Nat):Okk zo S R SB (fun a b=>a.isSome=b.isSome) (viewAt r) (viewAt r):=by
 unfold viewAt
 refine (shape_ok r).bind fun x y h=> ?_
 rw [h.isSome]
 split
 · exact pure_ok rfl
 · refine (getObj_ok r).bind fun o o' h' => ?_
   rcases h' with ⟨rfl,_⟩ | ⟨t,z,t',rfl,rfl⟩ | ⟨o,rfl,rfl,⟨l,rfl⟩ | ⟨c,t,rfl⟩⟩
   · split<;>exact pure_ok rfl
   · exact pure_ok rfl
   · exact pure_ok rfl
   · exact pure_ok rfl
theorem noView_ok (a:Addr):Okk zo S R SB Eq (noView a) (noView a):=by
 unfold noView
 refine (viewAt_ok _).bind fun x y h=> ?_
 rw [h]
 split
 · exact unsup_ok
 · exact ret_ok _
theorem numberAt_ok (r:Nat):Okk zo S R SB Eq (numberAt r) (numberAt r):=by
 unfold numberAt
 refine (shape_ok r).bind fun x y h=> ?_
 rw [h.isSome]
 split
 · exact ret_ok _
 · refine (getObj_ok r).bind fun o o' h' => ?_
   rcases h' with ⟨rfl,_⟩ | ⟨t,z,t',rfl,rfl⟩ | ⟨o,rfl,rfl,⟨l,rfl⟩ | ⟨c,t,rfl⟩⟩
   · split<;>exact ret_ok _
   · exact ret_ok _
   · exact ret_ok _
   · exact ret_ok _
theorem behind_ok (n:Addr):Okk zo S R SB Eq (behindNumber n) (behindNumber n):=(numberAt_ok _).on fun _=>ret_ok _
theorem stringish_ok (a:Addr):Okk zo S R SB (FrR SB a.block) (stringish a) (stringish a):=by
 unfold stringish
 refine (frozen_ok a a (.inl rfl)).bind fun x y h=> ?_
 obtain ⟨rfl,h0⟩:=h
 split
 · rename_i hx
   exact pure_ok ⟨rfl,fun hb=>by rw [h0 hb] at hx;cases hx⟩
 · refine (shape_ok a.block).bind fun p q h=> ?_
   rcases h with rfl | ⟨hb,t,n,rfl,rfl⟩
   · split
     · exact frozen_ok _ _ (.inl rfl)
     · exact pure_ok ⟨rfl,fun _=>rfl⟩
   · exact frozen_ok _ _ (.inr ⟨hb,hb⟩)
theorem mayBeOne_ok (a b:Addr):Okk zo S R SB Eq (mayBeOne a b) (mayBeOne a b):=by
 unfold mayBeOne
 refine (stringish_ok a).bind fun x y h=> ?_
 obtain ⟨rfl,ha⟩:=h
 refine (stringish_ok b).bind fun z u h=> ?_
 obtain ⟨rfl,hb⟩:=h
 refine Okk.bind (Q:=fun p q=>x=true→p=q) ?_ fun p q hp=> ?_
 · refine (shape_ok a.block).bind fun p q h=>pure_ok fun hx=> ?_
   rcases h with rfl | ⟨hs,_⟩
   · rfl
   · rw [ha hs] at hx;cases hx
 · refine Okk.bind (Q:=fun p q=>z=true→p=q) ?_ fun p' q' hp' =>pure_ok ?_
   · refine (shape_ok b.block).bind fun p q h=>pure_ok fun hx=> ?_
     rcases h with rfl | ⟨hs,_⟩
     · rfl
     · rw [hb hs] at hx;cases hx
   · cases x<;>cases z<;>simp_all
theorem sameAddr_ok (a b:Addr):Okk zo S R SB Eq (sameAddr a b) (sameAddr a b):=by
 unfold sameAddr
 split
 · exact ret_ok _
 · refine (frozen_ok a a (.inl rfl)).bind fun x y h=> ?_
   obtain ⟨rfl,_⟩:=h
   refine (frozen_ok b b (.inl rfl)).bind fun z u h=> ?_
   obtain ⟨rfl,_⟩:=h
   split
   · exact unsup_ok
   · refine (noView_ok a).on fun _=>(noView_ok b).on fun _=>(mayBeOne_ok a b).on fun m=> ?_
     split
     · exact (choose_ok _).on fun _=>ret_ok _
     · exact ret_ok _
theorem samePtr_ok (a b:Option Addr):Okk zo S R SB Eq (samePointer a b) (samePointer a b):=by
 unfold samePointer
 split
 · exact sameAddr_ok _ _
 · exact ret_ok _
theorem forIn_ok {α γ:Type}:∀(l:List α) (f f' :α→γ→Sem (ForInStep γ)) (g:γ),(∀x g,Okk zo S R SB Eq (f x g) (f' x g))→Okk zo S R SB Eq (forIn l g f) (forIn l g f')
 | [],_,_,_,_=>pure_ok rfl
 | x::l,f,f',g,h=>by
   simp only [List.forIn_cons]
   refine (h x g).bind fun r r' e=> ?_
   subst e
   cases r with
   | done b=>exact pure_ok rfl
   | «yield» b=>exact forIn_ok l f f' b h
theorem byteOf_ok (H:Sm S R) (a:Addr):Okk zo S R SB Eq (byteOf a) (byteOf a):=by
 unfold byteOf
 split
 · exact ret_ok _
 · refine program_ok.bind ?_
   rintro p q ⟨hp,hq⟩
   rw [hp,hq]
   refine (noView_ok a).on fun _=>(shape_ok _).bind fun x y h=> ?_
   have key:∀(e:TypeId) (n m:Nat),Okk zo S R SB Eq (match some (e,n) with
       | some (e,_)=>if S.cellsOf e=0 then pure 0 else match byteOfCell S S.depth e (a.off%S.cellsOf e) with
         | some b=>pure (a.off/S.cellsOf e*S.bytesOf e+b)
         | _ => stuck "byteOf: no such cell"
       | _ => stuck "byteOf: no such block") (match some (e, m) with
       | some (e,_)=>if R.cellsOf e=0 then pure 0 else match byteOfCell R R.depth e (a.off%R.cellsOf e) with
         | some b=>pure (a.off/R.cellsOf e*R.bytesOf e+b)
         | _ => stuck "byteOf: no such cell"
       | _ => stuck "byteOf: no such block") := fun e n m => by
     simp only [H.cellsOf,H.bytesOf,H.boc]
     split
     · exact ret_ok _
     · split
       · exact ret_ok _
       · exact stuck_ok
   rcases h with rfl | ⟨_,t,n,rfl,rfl⟩
   · cases x with
     | none=>exact stuck_ok
     | some x=>exact key x.1 x.2 x.2
   · exact key t 0 n
theorem typeStr_ok (H:Sm S R) (t:TypeId):Okk zo S R SB Eq (typeStr t) (typeStr t):=by
 unfold typeStr
 refine (typeInfo_ok H t).on fun i=> ?_
 dsimp only
 split
 · exact unsup_ok
 · exact ret_ok _
theorem equalIn_ok (H:Sm S R):∀(d:Nat) (t:TypeId) (x y:Value),Okk zo S R SB Eq (Op.equalIn d t x y) (Op.equalIn d t x y)
 | 0,_,_,_=>unsup_ok
 | d+1,t,x,y=>by
   unfold Op.equalIn
   refine (under_ok H t).on fun dd=> ?_
   split
   case h_5=>
     refine (behind_ok _).on fun p=>(behind_ok _).on fun q=> ?_
     dsimp only
     refine program_ok.bind ?_
     rintro u v ⟨hu,hv⟩
     rw [hu,hv,H.glob]
     split
     · exact (byteOf_ok H _).on fun _=>(byteOf_ok H _).on fun _=>ret_ok _
     · refine (typeInfo_ok H t).on fun i=> ?_
       split
       · split
         · exact ret_ok _
         · exact unsup_ok
       · exact unsup_ok
   case h_13=>
     refine (size_ok H _).on fun n=> ?_
     split
     · exact sameAddr_ok _ _
     · split
       · exact ret_ok _
       · exact (choose_ok _).on fun _=>ret_ok _
   case h_19=>
     split
     · exact ret_ok _
     · refine (typeInfo_ok H _).on fun i=> ?_
       split
       · refine Nev.okk ?_
         refine Nev.bind (program_ok (R:=R)).un fun p=>Nev.bind (program_ok (R:=R)).un fun q=> ?_
         split
         · exact nev_halt _
         · exact Nev.bind (typeStr_ok H _).un fun _=>nev_panic H _
       · exact equalIn_ok H d _ _ _
   case h_20=>
     refine program_ok.bind ?_
     rintro u v ⟨hu,hv⟩
     rw [hu,hv,H.held]
     split
     · exact unsup_ok
     · rw [←Array.forIn_toList]
       refine (forIn_ok _ _ _ _ fun f g=> ?_).on fun r=> ?_
       · split
         · refine (part_ok H _ _ _).on fun _=>(part_ok H _ _ _).on fun _=>(equalIn_ok H d _ _ _).on fun b=> ?_
           split<;>exact ret_ok _
         · exact ret_ok _
       · obtain ⟨r,u⟩:=r
         cases r<;>exact ret_ok _
   case h_21=>
     refine (size_ok H _).on fun n=> ?_
     refine Okk.on ?_ fun r=> ?_
     · rw [Std.Legacy.Range.forIn_eq_forIn_range']
       refine forIn_ok _ _ _ _ fun i g=> ?_
       refine (part_ok H _ _ _).on fun _=>(part_ok H _ _ _).on fun _=>(equalIn_ok H d _ _ _).on fun b=> ?_
       split<;>exact ret_ok _
     · obtain ⟨r,u⟩:=r
       cases r<;>exact ret_ok _
   all_goals first
     | exact ret_ok _
     | exact stuck_ok
     | exact unsup_ok
     | exact samePtr_ok _ _
     | (split<;>first | exact ret_ok _ | exact stuck_ok)
theorem guardIn_ok (H:Sm S R):∀(d:Nat) (t:TypeId) (x y:Value),Okk zo S R SB Eq (Op.eqGuardIn d t x y) (Op.eqGuardIn d t x y)
 | 0,_,_,_=>unsup_ok
 | d+1,t,x,y=>by
   unfold Op.eqGuardIn
   refine (under_ok H t).on fun dd=> ?_
   split
   · exact ret_ok _
   · rw [←Array.forIn_toList]
     refine (forIn_ok _ _ _ _ fun f g=> ?_).on fun r=> ?_
     · split
       · refine (part_ok H _ _ _).on fun _=>(part_ok H _ _ _).on fun _=>(guardIn_ok H d _ _ _).on fun b=> ?_
         split<;>exact ret_ok _
       · exact ret_ok _
     · obtain ⟨r,u⟩:=r
       cases r<;>exact ret_ok _
   · refine (size_ok H _).on fun n=> ?_
     refine Okk.on ?_ fun r=> ?_
     · rw [Std.Legacy.Range.forIn_eq_forIn_range']
       refine forIn_ok _ _ _ _ fun i g=> ?_
       refine (part_ok H _ _ _).on fun _=>(part_ok H _ _ _).on fun _=>(guardIn_ok H d _ _ _).on fun b=> ?_
       split<;>exact ret_ok _
     · obtain ⟨r,u⟩:=r
       cases r<;>exact ret_ok _
   · exact ret_ok _
theorem equal_ok (H:Sm S R) (t:TypeId) (x y:Value):Okk zo S R SB Eq (Op.equal t x y) (Op.equal t x y):=equalIn_ok H _ t x y
end
end Lo
end Go.Proofs.YtfphigmeppdocaaGreat
namespace Go.Proofs.YtfphigmeppdocaaGreat
namespace Lo
section
variable {zo:FuncId} {S R:Program} {SB:SBs} {α β γ δ:Type}
theorem loadAt_ok (H:Sm S R) (t:TypeId) (v:Value):Okk zo S R SB Eq (Instr.loadAt t v) (Instr.loadAt t v):=(sure_ok v).on fun a=>loadVar_ok H t a
theorem storeAt_ok (H:Sm S R) (t:TypeId) (v x:Value):Okk zo S R SB Eq (Instr.storeAt t v x) (Instr.storeAt t v x):=(sure_ok v).on fun a=>storeVar_ok H t a x
theorem alloc_ok (H:Sm S R) (t:TypeId):Okk zo S R SB Eq (Instr.alloc t true (.tuple #[])) (Instr.alloc t true (.tuple #[])):=(zero_ok H t).on fun _=>(var_ok _ _).on fun _=>ret_ok _
theorem box_ok (t:TypeId) (v:Value):Okk zo S R SB Eq (Instr.box t v) (Instr.box t v):=(var_ok _ _).on fun _=>ret_ok _
theorem extract_ok (v:Value) (i:Nat):Okk zo S R SB Eq (Instr.extract v i) (Instr.extract v i):=by
 unfold Instr.extract
 split
 · split
   · exact ret_ok _
   · exact stuck_ok
 · exact stuck_ok
theorem field_ok (H:Sm S R) (t:TypeId) (v:Value) (i:Nat):Okk zo S R SB Eq (Instr.field t v i) (Instr.field t v i):=by
 unfold Instr.field
 refine (under_ok H t).on fun d=> ?_
 split
 · split
   · exact (asAgg_ok v).on fun _=>part_ok H _ _ _
   · exact stuck_ok
 · exact stuck_ok
theorem partAt_ok (H:Sm S R) (a:Addr) (m n:Nat):Okk zo S R SB Eq (partAt a m n) (partAt a m n):=(byteOf_ok H a).on fun _=>(byteOf_ok H _).on fun _=>ret_ok _
theorem fieldPlace_ok (H:Sm S R) (a:Addr) (f:Field):Okk zo S R SB Eq (fieldPlace a f) (fieldPlace a f):=by
 unfold fieldPlace
 refine (size_ok H _).on fun n=> ?_
 split
 · exact partAt_ok H _ _ _
 · exact ret_ok _
theorem fieldAt_ok (H:Sm S R) (t:TypeId) (v:Value) (i:Nat):Okk zo S R SB Eq (Instr.fieldAt t v i) (Instr.fieldAt t v i):=by
 unfold Instr.fieldAt
 refine (under_ok H t).on fun d=> ?_
 split
 · split
   · exact (sure_ok v).on fun a=>(fieldPlace_ok H a _).on fun _=>ret_ok _
   · exact stuck_ok
 · exact stuck_ok
theorem index_ok (H:Sm S R) (t:TypeId) (x i:Value):Okk zo S R SB Eq (Instr.index t x i) (Instr.index t x i):=by
 unfold Instr.index
 refine (intOf_ok i).on fun k=>(under_ok H t).on fun d=> ?_
 split
 · split
   · exact (size_ok H _).on fun _=>part_ok H _ _ _
   · exact bounds_ok H
 · split
   · exact ret_ok _
   · exact bounds_ok H
 · exact stuck_ok
theorem indexAt_ok (H:Sm S R) (t:TypeId) (x i:Value):Okk zo S R SB Eq (Instr.indexAt t x i) (Instr.indexAt t x i):=by
 unfold Instr.indexAt
 refine (intOf_ok i).on fun k=>(under_ok H t).on fun d=> ?_
 repeat' (first | exact ret_ok _ | exact stuck_ok | exact unsup_ok | exact bounds_ok H | exact panic_ok H | exact size_ok H _ | exact sure_ok _ | exact under_ok H _ | exact row_ok _ _ | exact zero_ok H _ | split | (refine Okk.on ?_ fun _=> ?_) | dsimp only)
theorem bound_ok (H:Sm S R) (x:Value) (y:Nat) (c:BoundsCode):Okk zo S R SB Eq (Instr.sliceBound x y c) (Instr.sliceBound x y c):=by
 unfold Instr.sliceBound
 refine (intOf_ok x).on fun k=> ?_
 split
 split
 · exact ret_ok _
 · exact bounds_ok H
theorem slBounds_ok (H:Sm S R) (b:Bool) (l c:Nat) (lo hi mx:Option Value):Okk zo S R SB Eq (Instr.sliceBounds b l c lo hi mx) (Instr.sliceBounds b l c lo hi mx):=by
 unfold Instr.sliceBounds
 repeat' (first | exact ret_ok _ | exact stuck_ok | exact bound_ok H _ _ _ | split | (refine Okk.on ?_ fun _=> ?_) | dsimp only)
theorem asAddr_ok (H:Sm S R) (v:Value):Okk zo S R SB Eq (asAddr v) (asAddr v):=by
 unfold asAddr
 split
 · exact ret_ok _
 · exact panic_ok H
 · exact stuck_ok
theorem slice_ok (H:Sm S R) (t:TypeId) (x:Value) (lo hi mx:Option Value):Okk zo S R SB Eq (Instr.slice t x lo hi mx) (Instr.slice t x lo hi mx):=by
 unfold Instr.slice
 refine (under_ok H t).on fun d=> ?_
 split
 · split
   · exact stuck_ok
   · exact (slBounds_ok H _ _ _ _ _ _).on fun _=>ret_ok _
 · exact (slBounds_ok H _ _ _ _ _ _).on fun _=>(size_ok H _).on fun _=>ret_ok _
 · refine (asAddr_ok H _).on fun a=>(under_ok H _).on fun d=> ?_
   split
   · exact (slBounds_ok H _ _ _ _ _ _).on fun _=>(size_ok H _).on fun _=>ret_ok _
   · exact stuck_ok
 · exact stuck_ok
theorem sliceAt_ok (H:Sm S R) (t:TypeId) (x:Value) (lo hi mx:Option Value):Okk zo S R SB Eq (Instr.sliceAt t x lo hi mx) (Instr.sliceAt t x lo hi mx):=by
 unfold Instr.sliceAt
 refine (under_ok H t).on fun d=> ?_
 split
 · exact (sure_ok _).on fun a=>(slBounds_ok H _ _ _ _ _ _).on fun _=>(size_ok H _).on fun _=>ret_ok _
 · exact slice_ok H _ _ _ _ _
theorem makeSlice_ok (H:Sm S R) (t:TypeId) (l c:Value):Okk zo S R SB Eq (Instr.makeSlice t l c) (Instr.makeSlice t l c):=by
 unfold Instr.makeSlice
 refine (under_ok H t).on fun d=> ?_
 split
 · refine (int_ok l).on fun l=>(int_ok c).on fun c=>(typeInfo_ok H _).on fun i=> ?_
   repeat' (first | exact ret_ok _ | exact panic_ok H | exact choose_ok _ | exact size_ok H _ | exact row_ok _ _ | exact zero_ok H _ | exact room?_ok _ | split | (refine Okk.on ?_ fun _=> ?_) | dsimp only)
 · exact stuck_ok
theorem mapM_ok {α γ:Type} (f:α -> Sem γ) (hf:∀x,Okk zo S R SB Eq (f x) (f x)):∀(l:List α),Okk zo S R SB Eq (l.mapM f) (l.mapM f)
 | []=>by simp only [List.mapM_nil];exact ret_ok _
 | x::l=>by
   simp only [List.mapM_cons]
   exact (hf x).on fun _=>(mapM_ok f hf l).on fun _=>ret_ok _
theorem mapA_ok {α γ:Type} (f:α -> Sem γ) (hf:∀x,Okk zo S R SB Eq (f x) (f x)) (l:Array α):Okk zo S R SB Eq (l.mapM f) (l.mapM f):=by
 rw [Array.mapM_eq_mapM_toList,map_eq_pure_bind]
 exact (mapM_ok f hf _).on fun _=>ret_ok _
theorem build_ok (H:Sm S R) (t:TypeId) (l:Array (Nat×Value)):Okk zo S R SB Eq (Instr.build t l) (Instr.build t l):=by
 unfold Instr.build
 refine (zero_ok H t).on fun z=>(under_ok H t).on fun d=> ?_
 split
 · refine (mapA_ok _ (fun f=>(size_ok H _).on fun _=>ret_ok _) _).on fun p=> ?_
   split
   · exact ret_ok _
   · exact stuck_ok
 · refine (size_ok H _).on fun n=> ?_
   split
   · exact ret_ok _
   · exact stuck_ok
 · exact stuck_ok
theorem buildSlice_ok (H:Sm S R) (t:TypeId) (n:Nat) (l:Array (Nat×Value)):Okk zo S R SB Eq (Instr.buildSlice t n l) (Instr.buildSlice t n l):=by
 unfold Instr.buildSlice
 repeat' (first | exact ret_ok _ | exact stuck_ok | exact unsup_ok | exact bounds_ok H | exact panic_ok H | exact size_ok H _ | exact sure_ok _ | exact under_ok H _ | exact row_ok _ _ | exact zero_ok H _ | split | (refine Okk.on ?_ fun _=> ?_) | dsimp only)
theorem makeMap_ok (H:Sm S R) (t:TypeId) (r:Option Value):Okk zo S R SB Eq (Instr.makeMap t r) (Instr.makeMap t r):=by
 unfold Instr.makeMap
 have e:Okk zo S R SB Eq (do pure (Value.map (some (<- newObj (.map #[] 0)))):Sem Value) (do pure (Value.map (some (<- newObj (.map #[] 0))))):=(new_ok ⟨by simp,by simp⟩).on fun _=>ret_ok _
 split
 · refine (under_ok H t).on fun d=> ?_
   split
   · exact (int_ok _).on fun _=>e
   · exact stuck_ok
 · exact e
theorem checkKey_ok (H:Sm S R) (b:Bool):∀(d:Nat) (t:TypeId) (v:Value),Okk zo S R SB Eq (Instr.checkKey b d t v) (Instr.checkKey b d t v)
 | 0,_,_=>unsup_ok
 | d+1,t,v=>by
   unfold Instr.checkKey
   refine (under_ok H t).on fun dd=> ?_
   split
   · refine (typeInfo_ok H _).on fun i=> ?_
     split
     · refine Nev.okk ?_
       split
       · exact (nev_panic H _).left
       · exact Nev.bind (typeStr_ok H _).un fun _=>(nev_panic H _).left
     · exact checkKey_ok H b d _ _
   · rw [Std.Legacy.Range.forIn_eq_forIn_range']
     refine (forIn_ok _ _ _ _ fun i g=> ?_).on fun _=>ret_ok _
     exact (size_ok H _).on fun _=>(part_ok H _ _ _).on fun _=>(checkKey_ok H b d _ _).on fun _=>ret_ok _
   · rw [<- Array.forIn_toList]
     refine (forIn_ok _ _ _ _ fun f g=> ?_).on fun _=>ret_ok _
     split
     · exact (part_ok H _ _ _).on fun _=>(checkKey_ok H b d _ _).on fun _=>ret_ok _
     · exact ret_ok _
   all_goals first | exact ret_ok _ | exact stuck_ok
theorem findAsk_ok (H:Sm S R) (t:TypeId) (k:Value):∀(l:List MapEntry) (i:Nat),Okk zo S R SB Eq (Instr.findAsking t k l i) (Instr.findAsking t k l i)
 | [],_=>ret_ok _
 | e::l,i=>by
   unfold Instr.findAsking
   refine (equal_ok H _ _ _).on fun b=> ?_
   split
   · exact ret_ok _
   · exact findAsk_ok H t k l _
theorem findKey_ok (H:Sm S R) (t:TypeId) (k:Value) (l:List MapEntry):Okk zo S R SB Eq (Instr.findKey t k l) (Instr.findKey t k l):=by
 unfold Instr.findKey
 refine (under_ok H t).on fun d=> ?_
 split
 · exact ret_ok _
 · exact findAsk_ok H t k l 0
theorem lookup_ok (H:Sm S R) (t:TypeId) (x i:Value) (b:Bool):Okk zo S R SB Eq (Instr.lookup t x i b) (Instr.lookup t x i b):=by
 unfold Instr.lookup
 refine (under_ok H t).on fun d=> ?_
 split
 · dsimp only
   split
   · refine (ret_ok _).on fun es=>(checkKey_ok H _ _ _ _).on fun _=>(findKey_ok H _ _ _).on fun r=> ?_
     repeat' (first | exact ret_ok _ | exact zero_ok H _ | split | (refine Okk.on ?_ fun _=> ?_))
   · refine (getObj_ok _).bind fun o o' h=> ?_
     rcases h with ⟨rfl,_⟩ | ⟨t,z,t',rfl,rfl⟩ | ⟨o,rfl,rfl,_⟩
     · split
       · refine (ret_ok _).on fun es=>(checkKey_ok H _ _ _ _).on fun _=>(findKey_ok H _ _ _).on fun r=> ?_
         repeat' (first | exact ret_ok _ | exact zero_ok H _ | split | (refine Okk.on ?_ fun _=> ?_))
       · exact stuckb
     · exact stuckb
     · exact stuckb
   · exact stuckb
 · exact stuck_ok
theorem keyStays_ok (a b:Value):Okk zo S R SB Eq (Instr.keyThatStays a b) (Instr.keyThatStays a b):=by
 unfold Instr.keyThatStays
 split
 · exact ret_ok _
 · exact (choose_ok _).on fun _=>ret_ok _
theorem mapUpdate_ok (H:Sm S R) (t:TypeId) (m k x:Value):Okk zo S R SB Eq (Instr.mapUpdate t m k x) (Instr.mapUpdate t m k x):=by
 unfold Instr.mapUpdate
 refine (under_ok H t).on fun d=> ?_
 split
 · split
   · exact panic_ok H
   · refine (getObj_ok _).bind fun o o' h=> ?_
     rcases h with ⟨rfl,_⟩ | ⟨t,z,t',rfl,rfl⟩ | ⟨o,rfl,rfl,_⟩
     · split
       · refine (checkKey_ok H _ _ _ _).on fun _=>(findKey_ok H _ _ _).on fun r=> ?_
         split
         · exact (keyStays_ok _ _).on fun _=>setObj_ok _ ⟨by simp,by simp⟩
         · exact setObj_ok _ ⟨by simp,by simp⟩
       · exact stuck_ok
     · exact stuck_ok
     · exact stuck_ok
   · exact stuck_ok
 · exact stuck_ok
end
end Lo
end Go.Proofs.YtfphigmeppdocaaGreat
namespace Go.Proofs.YtfphigmeppdocaaGreat
namespace Lo
section
variable {zo:FuncId} {S R:Program} {SB:SBs} {α β γ δ:Type}
theorem panicb (H:Sm S R) {Q:α -> β -> Prop} {γ:Type} {e:RuntimeError} {f:γ -> Sem α} {y:Sem β}:Okk zo S R SB Q (runtimePanic e >>= f) y:=(nev_panic H e).left.okk
theorem lenOf_ok (v:Value):Okk zo S R SB Eq (Builtin.lenOf v) (Builtin.lenOf v):=by
 unfold Builtin.lenOf
 split<;>first | exact ret_ok _ | exact stuck_ok
theorem first_ok (s n:Nat) (v:Value):Okk zo S R SB Eq (Builtin.firstCells s n v) (Builtin.firstCells s n v):=by
 unfold Builtin.firstCells
 split<;>first | exact ret_ok _ | exact stuck_ok | exact loads_ok _ _
theorem huge_nev (b:Bool) (u:Unsupported) (hu:okHalt (.unsupported u)):Nev S SB (if (!b)=true then (mark .noRoom >>= fun _=>(unsupported u:Sem Unit)) else unsupported u):=by
 split
 · exact Nev.bind (room_ok (R:=S)).un fun _=>nev_halt _ hu
 · exact nev_halt _ hu
theorem holds_ok (a:Addr) (n:Nat):Un S SB (Builtin.holdsCells a n):=by
 unfold Builtin.holdsCells
 refine (shape_ok (R:=S) _).un.bind fun x=> ?_
 split<;>exact (ret_ok (R:=S) _).un
theorem share_un (s l n:Nat) (b:Option Addr) (x:Value):Un S SB (Builtin.mayShare s l n b x):=by
 have r:∀c:Bool,Un S SB (pure c:Sem Bool):=fun c=>(ret_ok (R:=S) c).un
 have fr:∀a,Un S SB (frozen a):=fun a=>(frozen_ok (R:=S) a a (.inl rfl)).un
 unfold Builtin.mayShare
 repeat' (first | exact r _ | exact holds_ok _ _ | exact fr _ | split | (refine Un.bind ?_ fun _=> ?_) | dsimp only)
theorem append_ok (H:Sm S R) (ts:Array TypeId) (t:TypeId) (x:Array Value):Okk zo S R SB Eq (Builtin.append_ ts t x) (Builtin.append_ ts t x):=by
 unfold Builtin.append_
 split
 case h_2=>exact stuck_ok
 refine (under_ok H _).on fun d=> ?_
 split
 case h_2=>exact stuck_ok
 dsimp only
 split
 case h_2=>exact stuck_ok
 refine (size_ok H _).on fun size=> ?_
 have key:∀{f:Bool -> Sem Value},(∀b,Okk zo S R SB Eq (f b) (f b)) -> Okk zo S R SB Eq (match ts[1]? with
     | some t=>do let d <- underlying t;let z <- pure (d matches .int _);f z
     | none=>do let z <- pure false;f z) (match ts[1]? with
     | some t=>do let d <- underlying t;let z <- pure (d matches .int _);f z
     | none=>do let z <- pure false;f z):=fun hf=>by
   split
   · exact (under_ok H _).on fun _=>(ret_ok _).on hf
   · exact (ret_ok _).on hf
 refine key fun zs=> ?_
 by_cases hz:zs=true
 · rw [if_pos hz]
   refine (int_ok _).on fun l=> ?_
   by_cases h1:IntKind.i64.wrap l<0
   · rw [if_pos h1];exact panicb H
   · rw [if_neg h1]
     refine (typeInfo_ok H _).on fun i=> ?_
     by_cases h2:IntKind.i64.wrap l*i.bytes>2 ^ 48
     · rw [if_pos h2];exact (choose_ok _).on fun _=>panicb H
     · rw [if_neg h2]
       refine (ret_ok _).on fun n=> ?_
       split
       · refine Okk.on (by repeat' (first | exact first_ok _ _ _ | exact ret_ok _ | exact zero_ok H _ | split | (refine Okk.on ?_ fun _=> ?_))) fun new=> ?_
         split
         · exact (stores_ok _ _ _).on fun _=>ret_ok _
         · exact ret_ok _
       · refine (typeInfo_ok H _).on fun i=> ?_
         split
         · exact panicb H
         · refine (typeInfo_ok H _).on fun i=> ?_
           split
           · refine (Nev.left ?_).okk
             exact nev_panic H _
           · exact (choose_ok _).on fun c=>(typeInfo_ok H _).on fun _=>(room?_ok _).on fun _=>(first_ok _ _ _).on fun o=>Okk.on (by repeat' (first | exact first_ok _ _ _ | exact ret_ok _ | exact zero_ok H _ | split | (refine Okk.on ?_ fun _=> ?_))) fun w=>(zero_ok H _).on fun z=>(row_ok _ _).on fun _=>ret_ok _
 · rw [if_neg hz]
   refine (lenOf_ok _).on fun n=> ?_
   split
   · refine Okk.on (by repeat' (first | exact first_ok _ _ _ | exact ret_ok _ | exact zero_ok H _ | split | (refine Okk.on ?_ fun _=> ?_))) fun new=> ?_
     split
     · exact (stores_ok _ _ _).on fun _=>ret_ok _
     · exact ret_ok _
   · refine (typeInfo_ok H _).on fun i=> ?_
     split
     · exact panicb H
     · refine (typeInfo_ok H _).on fun i=> ?_
       split
       · refine (Nev.left ?_).okk
         exact Nev.bind (share_un _ _ _ _ _) fun _=>huge_nev _ _ (by trivial)
       · exact (choose_ok _).on fun c=>(typeInfo_ok H _).on fun _=>(room?_ok _).on fun _=>(first_ok _ _ _).on fun o=>Okk.on (by repeat' (first | exact first_ok _ _ _ | exact ret_ok _ | exact zero_ok H _ | split | (refine Okk.on ?_ fun _=> ?_))) fun w=>(zero_ok H _).on fun z=>(row_ok _ _).on fun _=>ret_ok _
theorem copy_ok (H:Sm S R) (ts:Array TypeId) (t:TypeId) (x:Array Value):Okk zo S R SB Eq (Builtin.copy_ ts t x) (Builtin.copy_ ts t x):=by
 unfold Builtin.copy_
 repeat' (first | exact ret_ok _ | exact stuck_ok | exact size_ok H _ | exact under_ok H _ | exact lenOf_ok _ | exact first_ok _ _ _ | exact stores_ok _ _ _ | split | (refine Okk.on ?_ fun _=> ?_) | dsimp only)
theorem objLen_ok {f:Obj -> Sem Value} (r:Nat) (h:∀o,Okk zo S R SB Eq (f o) (f o)) (hv:∀a t,∃w,f (.view a t)=stuck w) (hc:∃w,f (.coro none)=stuck w):Okk zo S R SB Eq (getObj r >>= f) (getObj r >>= f):=by
 refine (getObj_ok r).bind fun o o' h' => ?_
 rcases h' with ⟨rfl,_⟩ | ⟨t,z,t',rfl,rfl⟩ | ⟨o,rfl,rfl,_⟩
 · exact h o
 · obtain ⟨w,hw⟩:=hv dead t
   rw [hw];exact stuck_ok
 · obtain ⟨w,hw⟩:=hc
   rw [hw];exact stuck_ok
theorem len_ok (H:Sm S R) (ts:Array TypeId) (t:TypeId) (x:Array Value):Okk zo S R SB Eq (Builtin.len_ ts t x) (Builtin.len_ ts t x):=by
 unfold Builtin.len_
 repeat' (first | exact ret_ok _ | exact stuck_ok | exact under_ok H _ | (refine objLen_ok _ (fun o=> ?_) (fun _ _=>⟨_,rfl⟩) ⟨_,rfl⟩) | split | (refine Okk.on ?_ fun _=> ?_) | dsimp only)
theorem cap_ok (H:Sm S R) (ts:Array TypeId) (t:TypeId) (x:Array Value):Okk zo S R SB Eq (Builtin.cap_ ts t x) (Builtin.cap_ ts t x):=by
 unfold Builtin.cap_
 repeat' (first | exact ret_ok _ | exact stuck_ok | exact under_ok H _ | (refine objLen_ok _ (fun o=> ?_) (fun _ _=>⟨_,rfl⟩) ⟨_,rfl⟩) | split | (refine Okk.on ?_ fun _=> ?_) | dsimp only)
theorem clear_ok (H:Sm S R) (ts:Array TypeId) (t:TypeId) (x:Array Value):Okk zo S R SB Eq (Builtin.clear_ ts t x) (Builtin.clear_ ts t x):=by
 unfold Builtin.clear_
 split
 · refine (under_ok H _).on fun d=> ?_
   dsimp only
   split
   case h_4=>
     refine (getObj_ok _).bind fun o o' h' => ?_
     rcases h' with ⟨rfl,_⟩ | ⟨t,z,t',rfl,rfl⟩ | ⟨o,rfl,rfl,_⟩
     · split
       · exact (setObj_ok _ ⟨by simp,by simp⟩).on fun _=>ret_ok _
       · exact stuckb
     · exact stuckb
     · exact stuckb
   all_goals first
     | exact (ret_ok _).on fun _=>ret_ok _
     | exact (zero_ok H _).on fun _=>(stores_ok _ _ _).on fun _=>ret_ok _
     | exact stuckb
 · exact stuck_ok
theorem stringOp_ok (op:BinOp) (a b:ByteArray):Okk zo S R SB Eq (Op.stringOp op a b) (Op.stringOp op a b):=by
 unfold Op.stringOp
 repeat' (first | exact ret_ok _ | exact stuck_ok | exact unsup_ok | split | dsimp only)
theorem min2_ok (a b:Value):Okk zo S R SB Eq (Builtin.min2 a b) (Builtin.min2 a b):=by
 unfold Builtin.min2
 repeat' (first | exact ret_ok _ | exact stuck_ok | exact unsup_ok | exact stringOp_ok _ _ _ | exact bool_ok _ | exact choose_ok _ | split | (refine Okk.on ?_ fun _=> ?_) | dsimp only)
theorem max2_ok (a b:Value):Okk zo S R SB Eq (Builtin.max2 a b) (Builtin.max2 a b):=by
 unfold Builtin.max2
 repeat' (first | exact ret_ok _ | exact stuck_ok | exact unsup_ok | exact stringOp_ok _ _ _ | exact bool_ok _ | exact choose_ok _ | split | (refine Okk.on ?_ fun _=> ?_) | dsimp only)
theorem foldM_ok {f:Value -> Value -> Sem Value} (hf:∀a b,Okk zo S R SB Eq (f a b) (f a b)):∀(l:List Value) (a:Value),Okk zo S R SB Eq (l.foldlM f a) (l.foldlM f a)
 | [],_=>by simp only [List.foldlM_nil];exact ret_ok _
 | x::l,a=>by simp only [List.foldlM_cons];exact (hf a x).on fun _=>foldM_ok hf l _
theorem min_ok (ts:Array TypeId) (t:TypeId) (x:Array Value):Okk zo S R SB Eq (Builtin.min_ ts t x) (Builtin.min_ ts t x):=by
 unfold Builtin.min_
 split
 · exact stuck_ok
 · exact foldM_ok min2_ok _ _
theorem max_ok (ts:Array TypeId) (t:TypeId) (x:Array Value):Okk zo S R SB Eq (Builtin.max_ ts t x) (Builtin.max_ ts t x):=by
 unfold Builtin.max_
 split
 · exact stuck_ok
 · exact foldM_ok max2_ok _ _
end
end Lo
end Go.Proofs.YtfphigmeppdocaaGreat
namespace Go.Proofs.YtfphigmeppdocaaGreat
namespace Lo
section
variable {zo:FuncId} {S R:Program} {SB:SBs} {α β γ δ:Type}
theorem cab0 (p:Program) (d:Nat) (e:TypeId) (o:Nat) (k:Int):cellAtBytes p d e 0 o k=none:=by
 unfold cellAtBytes
 dsimp only
 split
 · rfl
 · cases byteOfCell p d e (o%p.cellsOf e) with
   | none=>rfl
   | some h=>
     show (if _ then none else _)=none
     rw [if_pos]
     generalize (Int.ofNat (o/p.cellsOf e*p.bytesOf e+h)+k)=z
     simp only [Nat.zero_mul,Bool.or_eq_true,decide_eq_true_eq]
     rcases Int.lt_or_le z 0 with h | h
     · exact .inl h
     · exact .inr h
def addRest (p:Option Addr) (n:Int):Sem Value:=do
 if n < 0 then unsupported (.unsafePointer "Add: a move by a count below zero")
 let some a := p | unsupported (.unsafePointer "Add")
 let some (e, cells) ← shape a.block | unsupported (.unsafePointer "Add")
 let p ←program
 match cellAtBytes p p.depth e (cells/p.cellsOf e) a.off n with
 | some off=>pure (Value.pointer (some {a with off }))
 | none => unsupported (.unsafePointer "Add")
def addTail (p:Option Addr) (y:Value):Sem Value:=do
 let n ←asInt y
 if n=0 then
   let some a := p | unsupported (.unsafePointer "Add: from nil")
   if (← viewAt a.block).isSome then unsupported (.unsafePointer "Add: at a place where no cell lies")
   return .pointer p
 addRest p n
theorem addRest_ok (H:Sm S R) (p:Option Addr) (n:Int):Okk zo S R SB Eq (addRest p n) (addRest p n):=by
 unfold addRest
 dsimp only
 split
 · exact unsup_ok
 · split
   · refine (shape_ok _).bind fun a b h=> ?_
     have key:∀(e:TypeId) (c c' :Nat) (ad:Addr),(c=c' ∨c=0)→Okk zo S R SB Eq (do
         let p ←program
         match cellAtBytes p p.depth e (c/p.cellsOf e) ad.off n with
         | some off=>pure (Value.pointer (some {ad with off }))
         | none => unsupported (.unsafePointer "Add")) (do
         let p ←program
         match cellAtBytes p p.depth e (c' /p.cellsOf e) ad.off n with
         | some off=>pure (Value.pointer (some {ad with off }))
         | none => unsupported (.unsafePointer "Add")) := fun e c c' ad hc => by
       refine program_ok.bind ?_
       rintro p q ⟨hp,hq⟩
       rw [hp,hq]
       rcases hc with rfl | rfl
       · rw [H.cab,H.cellsOf]
         split
         · exact ret_ok _
         · exact unsup_ok
       · rw [Nat.zero_div,cab0]
         exact unsup_ok
     rcases h with rfl | ⟨_,t,m,rfl,rfl⟩
     · cases a with
       | none=>exact unsup_ok
       | some a=>exact key _ _ _ _ (.inl rfl)
     · exact key _ _ _ _ (.inr rfl)
   · exact unsup_ok
theorem unsafeAdd_ok (H:Sm S R) (ts:Array TypeId) (t:TypeId) (x y:Value):Okk zo S R SB Eq (Builtin.unsafeAdd_ ts t #[x,y]) (Builtin.unsafeAdd_ ts t #[x,y]):=by
 cases x
 case pointer p=>
   have e:Builtin.unsafeAdd_ ts t #[.pointer p,y]=addTail p y:=rfl
   rw [e]
   unfold addTail
   refine (int_ok _).on fun n=> ?_
   dsimp only
   split
   · split
     · refine (viewAt_ok _).bind fun a b h=> ?_
       rw [h]
       split
       · exact unsup_ok
       · exact ret_ok _
     · exact unsup_ok
   · exact addRest_ok H _ _
 all_goals exact stuck_ok
theorem moved_ok (H:Sm S R) (t:TypeId) (x y:Value):Okk zo S R SB Eq (movedNumber t x y) (movedNumber t x y):=by
 unfold movedNumber
 repeat' (first | exact ret_ok _ | exact unsup_ok | exact under_ok H _ | exact unsafeAdd_ok H _ _ _ _ | exact behind_ok _ | (refine Okk.on (new_ok ⟨by simp,by simp⟩) fun _=> ?_) | split | (refine Okk.on ?_ fun _=> ?_) | dsimp only)
theorem movedP_ok (H:Sm S R) (t:TypeId) (x y:Value):Okk zo S R SB Eq (movedPointer t x y) (movedPointer t x y):=by
 unfold movedPointer
 repeat' (first | exact ret_ok _ | exact unsup_ok | exact unsafeAdd_ok H _ _ _ _ | exact numberAt_ok _ | split | (refine Okk.on ?_ fun _=> ?_) | dsimp only)
theorem places_ok (H:Sm S R) (a b:Addr):Okk zo S R SB Eq (Op.twoPlaces a b) (Op.twoPlaces a b):=by
 unfold Op.twoPlaces
 refine program_ok.bind ?_
 rintro p q ⟨hp,hq⟩
 rw [hp,hq,H.glob]
 split
 · exact unsup_ok
 · exact (byteOf_ok H _).on fun _=>(byteOf_ok H _).on fun _=>ret_ok _
theorem addrMod_ok (H:Sm S R) (k:IntKind) (a:Addr) (n:Int):Okk zo S R SB Eq (Op.addrMod k a n) (Op.addrMod k a n):=by
 unfold Op.addrMod
 refine (shape_ok _).bind fun x y h=> ?_
 have key:∀(e:TypeId),Okk zo S R SB Eq (do
     let align:=(←typeInfo e).align
     if n<1||n.toNat>align||align%n.toNat !=0 then unsupported .addressObserved
     pure (Value.int k ((←byteOf a)%n.toNat:Nat))) (do
     let align:=(←typeInfo e).align
     if n<1||n.toNat>align||align%n.toNat !=0 then unsupported .addressObserved
     pure (Value.int k ((←byteOf a)%n.toNat:Nat))):=fun e=>by
   refine (typeInfo_ok H _).on fun i=> ?_
   dsimp only
   split
   · exact unsup_ok
   · exact (byteOf_ok H _).on fun _=>ret_ok _
 rcases h with rfl | ⟨_,t,m,rfl,rfl⟩
 · cases x with
   | none=>exact unsup_ok
   | some x=>exact key _
 · exact key _
theorem farith_ok (op:BinOp) (k:FloatKind) (a b:Nat):Okk zo S R SB Eq (Op.floatArith op k a b) (Op.floatArith op k a b):=by
 unfold Op.floatArith
 repeat' (first | exact ret_ok _ | exact stuck_ok | exact stuckb | exact choose_ok _ | split | (refine Okk.on ?_ fun _=> ?_) | dsimp only)
theorem fcmp_ok (op:BinOp) (k:FloatKind) (a b:Nat):Okk zo S R SB Eq (Op.floatCmp op k a b) (Op.floatCmp op k a b):=by
 unfold Op.floatCmp
 repeat' (first | exact ret_ok _ | exact stuck_ok | split | dsimp only)
theorem shift_ok (H:Sm S R) (op:BinOp) (k:IntKind) (a:Int) (k' :IntKind) (b:Int):Okk zo S R SB Eq (Op.shift op k a k' b) (Op.shift op k a k' b):=by
 unfold Op.shift
 repeat' (first | exact ret_ok _ | exact stuck_ok | exact panic_ok H | split | dsimp only)
theorem iarith_ok (op:BinOp) (k:IntKind) (a b:Int):Okk zo S R SB Eq (Op.intArith op k a b) (Op.intArith op k a b):=by
 unfold Op.intArith
 split<;>first | exact ret_ok _ | exact stuck_ok
theorem idiv_ok (H:Sm S R) (op:BinOp) (k:IntKind) (a b:Int):Okk zo S R SB Eq (Op.intDiv op k a b) (Op.intDiv op k a b):=by
 unfold Op.intDiv
 repeat' (first | exact ret_ok _ | exact stuck_ok | exact panic_ok H | split)
theorem ibits_ok (op:BinOp) (k:IntKind) (a b:Int):Okk zo S R SB Eq (Op.intBits op k a b) (Op.intBits op k a b):=by
 unfold Op.intBits
 dsimp only
 split<;>first | exact ret_ok _ | exact stuck_ok
theorem icmp_ok (op:BinOp) (a b:Int):Okk zo S R SB Eq (Op.intCmp op a b) (Op.intCmp op a b):=by
 unfold Op.intCmp
 split<;>first | exact ret_ok _ | exact stuck_ok
theorem f2f_ok (a:FloatKind) (n:Nat) (b:FloatKind):Okk zo S R SB Eq (Conv.floatToFloat a n b) (Conv.floatToFloat a n b):=by
 unfold Conv.floatToFloat
 repeat' (first | exact ret_ok _ | exact stuck_ok | exact unsup_ok | exact choose_ok _ | split | (refine Okk.on ?_ fun _=> ?_) | dsimp only)
theorem cxA (op:BinOp) (k:FloatKind) (a b:Nat):Okk zo S R SB Eq (Op.Complex.arith op k a b) (Op.Complex.arith op k a b):=by
 unfold Op.Complex.arith
 refine (farith_ok _ _ _ _).on fun r=> ?_
 split
 · exact ret_ok _
 · exact stuck_ok
theorem cxV (a:FloatKind) (n:Nat) (b:FloatKind):Okk zo S R SB Eq (Op.Complex.conv a n b) (Op.Complex.conv a n b):=by
 unfold Op.Complex.conv
 split
 · exact ret_ok _
 · refine (f2f_ok _ _ _).on fun r=> ?_
   split
   · exact ret_ok _
   · exact stuck_ok
theorem cxQ (a b c d:Nat):Okk zo S R SB Eq (Op.Complex.quotient a b c d) (Op.Complex.quotient a b c d):=by
 unfold Op.Complex.quotient Op.Complex.corrected Op.Complex.add Op.Complex.sub Op.Complex.mul Op.Complex.quo
 repeat' (first | exact ret_ok _ | exact cxA _ _ _ _ | exact cxC _ _ _ _ | split | (refine Okk.on ?_ fun _=> ?_) | dsimp only)
theorem cx_ok (op:BinOp) (k:FloatKind) (a b c d:Nat):Okk zo S R SB Eq (Op.complexOp op k a b c d) (Op.complexOp op k a b c d):=by
 unfold Op.complexOp Op.Complex.product Op.Complex.add Op.Complex.sub Op.Complex.mul
 repeat' (first | exact ret_ok _ | exact stuck_ok | exact cxA _ _ _ _ | exact cxC _ _ _ _ | exact cxV _ _ _ | exact cxQ _ _ _ _ | split | (refine Okk.on ?_ fun _=> ?_) | dsimp only)
theorem binOp_ok (H:Sm S R) (op:BinOp) (t:TypeId) (x y:Value):Okk zo S R SB Eq (binOp op t x y) (binOp op t x y):=by
 unfold binOp
 split
 all_goals first
   | exact shift_ok H _ _ _ _ _
   | exact stringOp_ok _ _ _
   | exact (equal_ok H _ _ _).on fun _=>ret_ok _
   | exact (behind_ok _).on fun _=>(behind_ok _).on fun _=>(places_ok H _ _).on fun _=>ret_ok _
   | exact (behind_ok _).on fun _=>addrMod_ok H _ _ _
   | exact unsup_ok
   | exact stuck_ok
   | exact moved_ok H _ _ _
   | (refine (under_ok H _).on fun _=> ?_;split;exact movedP_ok H _ _ _;exact moved_ok H _ _ _)
   | (split;exact stuck_ok;split<;>first | exact iarith_ok _ _ _ _ | exact idiv_ok H _ _ _ _ | exact ibits_ok _ _ _ _ | exact icmp_ok _ _ _ | exact farith_ok _ _ _ _ | exact fcmp_ok _ _ _ _)
   | (split;exact stuck_ok;exact cx_ok _ _ _ _ _ _)
theorem ite_ok {c:Prop} [Decidable c] {x y:Sem α} (h1:Okk zo S R SB Eq x x) (h2:Okk zo S R SB Eq y y):Okk zo S R SB Eq (if c then x else y) (if c then x else y):=by
 split<;>assumption
theorem guard_ok (H:Sm S R) (op:BinOp) (t:TypeId) (x y:Operand) (a b:Value):Okk zo S R SB Eq (eqGuard op t x y a b) (eqGuard op t x y a b):=by
 unfold eqGuard
 split<;>simp only [Bool.not_true,Bool.not_false,Bool.false_eq_true,↓reduceIte]
 case h_3=>exact ret_ok _
 all_goals
   split
   · refine ite_ok (ret_ok _) ((guardIn_ok H _ _ _ _).on fun r=>ite_ok unsup_ok (ret_ok _))
   · refine program_ok.bind ?_
     rintro p q ⟨hp,hq⟩
     refine program_ok.bind ?_
     rintro p' q' ⟨hp',hq'⟩
     rw [hp,hq,hp',hq',H.eqg]
     exact ite_ok (ret_ok _) ((guardIn_ok H _ _ _ _).on fun r=>ite_ok unsup_ok (ret_ok _))
   · exact ret_ok _
theorem unary_ok (op:UnOp) (x:Value):Okk zo S R SB Eq (Op.unary op x) (Op.unary op x):=by
 unfold Op.unary
 split<;>first | exact ret_ok _ | exact iarith_ok _ _ _ _ | exact ibits_ok _ _ _ _ | exact unsup_ok | exact stuck_ok
theorem makeIface_ok (H:Sm S R) (t:TypeId) (x:Value):Okk zo S R SB Eq (Instr.makeInterface t x) (Instr.makeInterface t x):=by
 unfold Instr.makeInterface
 refine (under_ok H _).on fun d=> ?_
 split
 · exact stuck_ok
 · exact ret_ok _
end
end Lo
end Go.Proofs.YtfphigmeppdocaaGreat
namespace Go.Proofs.YtfphigmeppdocaaGreat
namespace Lo
section
variable {zo:FuncId} {S R:Program} {SB:SBs} {α β γ δ:Type}
theorem get_ok (H:Sm S R) (t:TypeId) (x:Place):Okk zo S R SB Eq (x.get t) (x.get t):=by
 cases x
 · exact ret_ok _
 · exact loadVar_ok H t _
theorem follow_ok (H:Sm S R):∀(l:List FieldStep) (t:TypeId) (x:Place),Okk zo S R SB Eq (follow l t x) (follow l t x)
 | [],_,_=>ret_ok _
 | s::l,t,x=>by
   unfold follow
   refine (under_ok H _).on fun d=> ?_
   split
   · split
     · split
       · exact (get_ok H _ _).on fun _=>(asAddr_ok H _).on fun _=>(fieldPlace_ok H _ _).on fun _=>follow_ok H l _ _
       · split
         · exact (fieldPlace_ok H _ _).on fun _=>follow_ok H l _ _
         · exact (part_ok H _ _ _).on fun _=>follow_ok H l _ _
         · exact stuck_ok
     · exact stuck_ok
   · exact stuck_ok
def wrapRest (xt:TypeId) (method:ByteArray):Sem Value:=do
 if (← choose (.extern "ssa:wrapnilchk.dereferenced" 2)) == 1 then runtimePanic .nilDeref
 let some pt := #[xt][0]? | stuck "ssa:wrapnilchk: no argument types"
 let .pointer t ← underlying pt | stuck "ssa:wrapnilchk: pointer type expected"
 let .named name _ := (← typeInfo t).desc | stuck "ssa:wrapnilchk: defined type expected"
 let some m := String.fromUTF8? method | stuck "ssa:wrapnilchk: the method's name is not UTF-8"
 let base := (name.splitOn "[").headD ""
 let targs := if base == name then "" else "[...]"
 match ((base.splitOn "/").getLastD "").splitOn "." with
 | [_, typ] => runtimePanic (.plain ("value method " ++ toString base ++ toString targs ++ "." ++ toString m ++ " called using nil *" ++ toString typ ++ toString targs ++ " pointer"))
 | _ => unsupported (.noEntry "builtin/ssaWrapNilChk.dot in the package path")
theorem wrap_nev (H:Sm S R) (xt:TypeId) (m:ByteArray):Nev S SB (wrapRest xt m):=by
 unfold wrapRest
 refine Nev.bind (choose_ok (R:=R) _).un fun c=> ?_
 dsimp only
 split
 · exact (nev_panic H _).left
 · split
   · refine Nev.bind (under_ok H _).un fun d=> ?_
     split
     · refine Nev.bind (typeInfo_ok H _).un fun i=> ?_
       split
       · split
         · split
           · exact nev_panic H _
           · exact nev_halt _
         · exact nev_halt _
       · exact nev_halt _
     · exact nev_halt _
   · exact nev_halt _
theorem wrap_ok (H : Sm S R) (xt : TypeId) (p : Value) (name : String) : Okk zo S R SB Eq (Builtin.ssaWrapNilChk_ #[xt] xt #[p, strVal "", strVal name]) (Builtin.ssaWrapNilChk_ #[xt] xt #[p, strVal "", strVal name]) := by
 cases p
 case pointer a=>
   cases a
   · have e : Builtin.ssaWrapNilChk_ #[xt] xt #[.pointer none, strVal "", strVal name] = wrapRest xt name.toUTF8 := rfl
     rw [e]
     exact (wrap_nev H _ _).okk
   · exact ret_ok _
 all_goals exact stuck_ok
theorem recvAt_ok (H:Sm S R) (t:TypeId) (x:Place) (b:Bool) (w:Option String):Okk zo S R SB Eq (receiverAt t x b w) (receiverAt t x b w):=by
 unfold receiverAt
 refine (under_ok H _).on fun d=> ?_
 split
 · exact get_ok H _ _
 · refine (get_ok H _ _).on fun p=> ?_
   dsimp only
   split
   · exact (wrap_ok H _ _ _).on fun _=>(asAddr_ok H _).on fun _=>loadVar_ok H _ _
   · exact (ret_ok _).on fun _=>(asAddr_ok H _).on fun _=>loadVar_ok H _ _
 · exact ret_ok _
 · exact stuck_ok
 · exact get_ok H _ _
theorem recvVia_ok (H:Sm S R) (t:TypeId) (v:Value) (p:Array FieldStep) (b:Bool):Okk zo S R SB Eq (receiverVia t v p b) (receiverVia t v p b):=(follow_ok H _ _ _).on fun _=>recvAt_ok H _ _ _ _
theorem method_ok (H:Sm S R):∀(n:Nat) (t:TypeId) (v:Value) (name:String),Okk zo S R SB Eq (method n t v name) (method n t v name)
 | 0,_,_,_=>unsup_ok
 | n+1,t,v,name=>by
   unfold method
   refine (typeInfo_ok H _).on fun i=> ?_
   split
   · refine (follow_ok H _ _ _).on fun x=> ?_
     dsimp only
     split
     · refine (get_ok H _ _).on fun y=> ?_
       split
       · exact method_ok H n _ _ _
       · exact panic_ok H
       · exact stuck_ok
     · exact (recvAt_ok H _ _ _ _).on fun _=>ret_ok _
   · exact stuck_ok
theorem blind_ok (H:Sm S R):∀(l:List FieldStep) (t:TypeId) (x:Option Value),Okk zo S R SB Eq (followBlind l t x) (followBlind l t x)
 | [],_,_=>ret_ok _
 | s::l,t,x=>by
   unfold followBlind
   refine (under_ok H _).on fun d=> ?_
   split
   · split
     · split
       · exact ret_ok _
       · exact blind_ok H l _ _
       · exact stuck_ok
       · exact ret_ok _
       · exact (part_ok H _ _ _).on fun _=>blind_ok H l _ _
       · exact stuck_ok
       · exact blind_ok H l _ _
     · exact stuck_ok
   · exact stuck_ok
theorem nilAhead_ok (H:Sm S R):∀(n:Nat) (t:TypeId) (v:Value) (name:String),Okk zo S R SB Eq (nilAhead n t v name) (nilAhead n t v name)
 | 0,_,_,_=>ret_ok _
 | n+1,t,v,name=>by
   unfold nilAhead
   refine (typeInfo_ok H _).on fun i=> ?_
   split
   · refine (blind_ok H _ _ _).on fun x=> ?_
     split
     · exact ret_ok _
     · split
       · exact nilAhead_ok H n _ _ _
       · exact ret_ok _
       · exact stuck_ok
       · exact ret_ok _
       · exact ret_ok _
       · refine (under_ok H _).on fun d=> ?_
         split<;>exact ret_ok _
   · exact stuck_ok
theorem new_okN {o:Obj} (ho:Pl o):Okk zo S R SB (fun a b=>a=b∧¬SB a) (newObj o) (newObj o):=by
 intro s hv
 refine ⟨fun h s' hr=>(by cases hr),fun x s' hr=> ?_⟩
 obtain ⟨k,v,⟨b,hb⟩,h⟩:=(new_ok (zo:=zo) (S:=S) (R:=R) (SB:=SB) ho s hv).2 x s' hr
 have hn:¬SB x:=fun hb=>by
   cases hr
   obtain ⟨t,h1⟩:=hv.bad _ hb
   have:=(Array.getElem?_eq_some_iff.1 h1).1
   omega
 exact ⟨k,v,⟨x,rfl,hn⟩,fun w es hw hA=>let ⟨b,w',u,r,q,g⟩:=h w es hw hA;⟨b,w',u,r,⟨q,hn⟩,g⟩⟩
theorem row_okN (t:TypeId) (c:Array Value):Okk zo S R SB (fun a b=>a=b∧¬SB a.block) (newRow t c) (newRow t c):=(new_okN ⟨by simp,by simp⟩).bind fun a b h=>by
 obtain ⟨rfl,h⟩:=h
 exact pure_ok ⟨rfl,h⟩
theorem markStr_ok (a:Addr) (hn:¬SB a.block):Okk zo S R SB Eq (markStringish a) (markStringish a):=by
 unfold markStringish
 refine (shape_ok _).bind fun x y h=> ?_
 rcases h with rfl | ⟨hb,_⟩
 · split
   · exact freeze_ok _ _ hn
   · exact ret_ok _
 · exact absurd hb hn
theorem s2b_ok (t:TypeId) (s:ByteArray):Okk zo S R SB Eq (Conv.stringToBytes t s) (Conv.stringToBytes t s):=by
 unfold Conv.stringToBytes
 refine (choose_ok _).on fun c=> ?_
 dsimp only
 refine (row_okN _ _).bind fun a b h=> ?_
 obtain ⟨rfl,h⟩:=h
 exact (markStr_ok _ h).on fun _=>ret_ok _
theorem b2s_ok (x:Value):Okk zo S R SB Eq (Conv.bytesToString x) (Conv.bytesToString x):=by
 unfold Conv.bytesToString
 split
 · exact ret_ok _
 · refine (loads_ok _ _).on fun c=> ?_
   rw [←Array.forIn_toList]
   refine (forIn_ok _ _ _ _ fun y g=> ?_).on fun r=>ret_ok _
   split
   · exact ret_ok _
   · exact stuck_ok
 · exact stuck_ok
def convOk (S:Program) (s d:TypeId):Bool:=match S.underlying s,S.underlying d with
 | some (.int _),some (.int _)=>true
 | some .string,some .string=>true
 | some .string,some (.slice e)=>(match S.underlying e with | some (.int .i32)=>false | _=>true)
 | some (.slice e),some .string=>(match S.underlying e with | some (.int .i32)=>false | _=>true)
 | _,_=>false
theorem under_okS (H:Sm S R) (t:TypeId):Okk zo S R SB (fun a b=>a=b∧S.underlying t=some a) (underlying t) (underlying t):=by
 unfold underlying
 refine program_ok.bind ?_
 rintro p q ⟨hp,hq⟩
 rw [hp,hq,H.under t]
 split
 · rename_i h;exact pure_ok ⟨rfl,h⟩
 · exact stuck_ok
theorem convert_ok (H:Sm S R) {s d:TypeId} (hc:convOk S s d=true) (x:Value):Okk zo S R SB Eq (convert s d x) (convert s d x):=by
 unfold convOk at hc
 unfold convert
 refine (under_okS H s).bind fun a b h=> ?_
 obtain ⟨rfl,hs⟩:=h
 refine (under_okS H d).bind fun a' b h=> ?_
 obtain ⟨rfl,hd⟩:=h
 rw [hs,hd] at hc
 split at hc
 · split<;>first | exact ret_ok _ | exact unsup_ok | (simp_all;done) | (unfold Conv.floatToInt;dsimp only;repeat' (first | exact ret_ok _ | exact choose_ok _ | split | (refine Okk.on ?_ fun _=> ?_)))
 · split<;>first | exact ret_ok _ | exact unsup_ok | (simp_all;done)
 · split<;>first | exact ret_ok _ | exact unsup_ok | (simp_all;done) | skip
   refine (under_okS H _).bind fun a b h=> ?_
   obtain ⟨rfl,he⟩:=h
   simp_all
   split
   · exact s2b_ok _ _
   · simp_all
   · exact stuck_ok
 · split<;>first | exact ret_ok _ | exact unsup_ok | (simp_all;done) | skip
   refine (under_okS H _).bind fun a b h=> ?_
   obtain ⟨rfl,he⟩:=h
   simp_all
   split
   · exact b2s_ok _
   · simp_all
   · exact stuck_ok
 · simp at hc
end
end Lo
end Go.Proofs.YtfphigmeppdocaaGreat
namespace Go.Proofs.YtfphigmeppdocaaGreat
namespace Lo
def afterOp (P:Program) (fr:Frame) (cs:List Frame):Next→Sem (List Frame)
 | .value v=>pure (fr.finish v::cs)
 | .skip=>pure (fr.finish undef::cs)
 | .enter f args=>pure (Frame.enter P f args .normal::fr::cs)
 | _ => stuck "not here"
def gsem (P:Program):List Frame→Sem (List Frame)
 | [] => stuck "no frame"
 | fr::cs=>
   match fr.mode with
   | .panicking _ => stuck "a panic"
   | .returning=>
     match P.funcs[fr.fn]?,cs with
     | some fn,c::cs=>do
       let v ←results fn fr.tmps
       pure (c.finish v::cs)
     | _, _ => stuck "the end"
   | .run=>
     match fr.todo with
     | [] | .code .ret::_=>pure ({fr with mode:= .returning }::cs)
     | .code .skip::k | .code (.label _)::k | .inBlock _::k | .inScope _::k=>pure ({fr with todo:=k }::cs)
     | .code (.seq a b)::k=>pure ({fr with todo:= .code a:: .code b::k }::cs)
     | .code (.cond c a b)::k=>
       match fr.eval c with
       | .bool x=>pure ({fr with todo:= .code (if x then a else b)::k }::cs)
       | _ => stuck "cond: bool expected"
     | .code (.block id b)::k=>pure ({fr with todo:= .code b:: .inBlock id::k }::cs)
     | .code (.loop b)::k | .inLoop b::k=>pure ({fr with todo:= .code b:: .inLoop b::k }::cs)
     | .code (.scope b)::k=>pure ({fr with todo:= .code b:: .inScope b::k }::cs)
     | .code (.exit id)::k=>match exitTo id k with
       | some k' =>pure ({fr with todo:=k' }::cs)
       | none => stuck "exit"
     | .code (.region id ops draw)::k=>
       if !draw then pure ({fr with todo:= .inRegion ops (List.range ops.size)::k }::cs)
       else do
         let t ←choose (.order fr.fn id)
         pure ({fr with todo:= .inRegion ops (Region.schedule (P.follows .mixedOrders) ops t)::k }::cs)
     | .inRegion _ []::k=>pure ({fr with todo:=k }::cs)
     | .inRegion ops (i::_)::_=>
       match ops[i]? with
       | some o=>if Region.wanted o (yielded ops fr.tmps) then do afterOp P fr cs (←execOp fr.eval o) else pure (fr.finish undef::cs)
       | none=>pure (fr.finish undef::cs)
     | _ => stuck "not here"
structure Plain (fr:Frame):Prop where
 defers:fr.defers=[]
 kind:fr.kind= .normal
 round:fr.roundOf=none
theorem finish_plain {fr:Frame} (h:Plain fr) (v:Value):Plain (fr.finish v):=by
 unfold Frame.finish
 split<;>exact ⟨h.1,h.2,h.3⟩
theorem step_of_gsem {P:Program} {fr:Frame} {cs fs:List Frame} (hp:Plain fr) {w w' :World} {es:Array Event}
   (h:(gsem P (fr::cs)).runT P w #[]=(.ok fs w',es)) (main:Bool) (base:List Frame) (hf:∃fn,P.funcs[fr.fn]? =some fn):
   ∃fr' cs',fs=fr' ::cs' ∧stepG P main (Conc.G fr (cs++base)) w= .go (Conc.G fr' (cs' ++base)) w' (seen P fr.fn es):=by
 obtain ⟨fnid,tmps,todo,defers,mode,kind,roundOf⟩:=fr
 obtain ⟨hd,hk,hr⟩:=hp
 simp only at hd hk hr
 subst hd hk hr
 have seen0:seen P fnid #[]=#[]:=rfl
 cases mode with
 | panicking ch=>simp [gsem,Go.stuck,Sem.runT, -Sem.runT_eq] at h
 | returning=>
   obtain ⟨fn,hfn⟩:=hf
   simp only at hfn
   cases cs with
   | nil=>simp [gsem,hfn,Go.stuck,Sem.runT, -Sem.runT_eq] at h
   | cons c cs=>
     simp only [gsem,hfn] at h
     have h' :((results fn tmps).bind fun v=>Sem.pure (c.finish v::cs)).runT P w #[]=(.ok fs w',es):=h
     rw [Sem.runT_bind'] at h'
     cases hr:(results fn tmps).runT P w #[] with
     | mk r es1=>
       rw [hr] at h'
       cases r with
       | halt x w1=>simp at h'
       | ok v w1=>
         simp only [Sem.runT,Prod.mk.injEq,Result.ok.injEq] at h'
         obtain ⟨⟨rfl,rfl⟩,rfl⟩:=h'
         refine ⟨_,_,rfl,?_⟩
         simp only [Conc.G,stepG,unwind,hfn,hr,doReturn,GStep.after,List.cons_append]
         simp
 | run=>
   have ctl:∀{fr2:Frame},(Pure.pure (fr2::cs):Sem (List Frame)).runT P w #[]=(.ok fs w',es)→fs=fr2::cs∧w' =w∧es=#[]:=by
     intro fr2 hc
     have hc' :((.ok (fr2::cs) w,#[]):Result (List Frame)×Array Event)=(.ok fs w',es):=hc
     simp only [Prod.mk.injEq,Result.ok.injEq] at hc'
     exact ⟨hc'.1.1.symm,hc'.1.2.symm,hc'.2.symm⟩
   have bad:∀{why:String},(Go.stuck why:Sem (List Frame)).runT P w #[]=(.ok fs w',es)→False:=by
     intro why hc
     simp [Go.stuck,Sem.runT, -Sem.runT_eq] at hc
   cases todo with
   | nil=>
     obtain ⟨rfl,rfl,rfl⟩:=ctl h
     exact ⟨_,_,rfl,by simp [Conc.G,stepG,stepG.exec,seen0]⟩
   | cons it k=>
     cases it with
     | inBlock id=>
       obtain ⟨rfl,rfl,rfl⟩:=ctl h
       exact ⟨_,_,rfl,by simp [Conc.G,stepG,stepG.exec,seen0]⟩
     | inScope b=>
       obtain ⟨rfl,rfl,rfl⟩:=ctl h
       exact ⟨_,_,rfl,by simp [Conc.G,stepG,stepG.exec,seen0]⟩
     | inLoop b=>
       obtain ⟨rfl,rfl,rfl⟩:=ctl h
       exact ⟨_,_,rfl,by simp [Conc.G,stepG,stepG.exec,seen0]⟩
     | inRegion ops l=>
       cases l with
       | nil=>
         obtain ⟨rfl,rfl,rfl⟩:=ctl h
         exact ⟨_,_,rfl,by simp [Conc.G,stepG,stepG.exec,seen0]⟩
       | cons i l=>
         cases ho:ops[i]? with
         | none=>
           simp only [gsem,ho] at h
           obtain ⟨rfl,rfl,rfl⟩:=ctl h
           exact ⟨_,_,rfl,by simp [Conc.G,stepG,stepG.exec,seen0,ho]⟩
         | some o=>
           simp only [gsem,ho] at h
           by_cases hw:Region.wanted o (yielded ops tmps)=true
           · rw [if_pos hw] at h
             generalize hfr:({fn:=fnid,tmps:=tmps,todo:= .inRegion ops (i::l)::k,defers:=[],mode:= .run,kind:= .normal,roundOf:=none }:Frame)=fr at h ⊢
             have h' :((execOp fr.eval o).bind fun x=>afterOp P fr cs x).runT P w #[]=(.ok fs w',es):=h
             rw [Sem.runT_bind'] at h'
             have hst:stepG P main (Conc.G fr (cs++base)) w=stepG.apply P true fr (cs++base) none (execOp fr.eval o) w:=by
               subst hfr
               simp [Conc.G,stepG,stepG.exec,stepG.oper,Frame.oper?,ho,hw]
             have hfn:fr.fn=fnid:=by subst hfr;rfl
             have hki:fr.kind= .normal:=by subst hfr;rfl
             have htd:∃ops l k,fr.todo= .inRegion ops l::k:=⟨ops,i::l,k,by subst hfr;rfl⟩
             rw [hst]
             clear hst hfr h
             cases hr:(execOp fr.eval o).runT P w #[] with
             | mk r es1=>
               rw [hr] at h'
               cases r with
               | halt x w1=>simp at h'
               | ok x w1=>
                 simp only at h'
                 unfold stepG.apply
                 simp only [hr,if_true,hki,hfn]
                 have hke:(CallKind.normal==CallKind.early)=false:=rfl
                 simp only [hke,Bool.false_eq_true,if_false]
                 obtain ⟨ops',l',k',htd⟩:=htd
                 cases x with
                 | value v=>
                   simp only [afterOp] at h'
                   have h'' :((.ok (fr.finish v::cs) w1,es1):Result (List Frame)×Array Event)=(.ok fs w',es):=h'
                   simp only [Prod.mk.injEq,Result.ok.injEq] at h''
                   obtain ⟨⟨rfl,rfl⟩,rfl⟩:=h''
                   exact ⟨_,_,rfl,by simp [GStep.after,Conc.G]⟩
                 | skip=>
                   simp only [afterOp] at h'
                   have h'' :((.ok (fr.finish undef::cs) w1,es1):Result (List Frame)×Array Event)=(.ok fs w',es):=h'
                   simp only [Prod.mk.injEq,Result.ok.injEq] at h''
                   obtain ⟨⟨rfl,rfl⟩,rfl⟩:=h''
                   exact ⟨_,_,rfl,by simp [GStep.after,Conc.G]⟩
                 | enter f args=>
                   simp only [afterOp] at h'
                   have h'' :((.ok (Frame.enter P f args .normal::fr::cs) w1,es1):Result (List Frame)×Array Event)=(.ok fs w',es):=h'
                   simp only [Prod.mk.injEq,Result.ok.injEq] at h''
                   obtain ⟨⟨rfl,rfl⟩,rfl⟩:=h''
                   exact ⟨_,_,rfl,by simp [GStep.after,Conc.G,htd]⟩
                 | _=>simp [afterOp,Go.stuck,Sem.runT, -Sem.runT_eq] at h'
           · rw [if_neg hw] at h
             obtain ⟨rfl,rfl,rfl⟩:=ctl h
             have hw' :Region.wanted o (yielded ops tmps)=false:=by simpa using hw
             exact ⟨_,_,rfl,by simp [Conc.G,stepG,stepG.exec,seen0,ho,hw']⟩
     | code c=>
       cases c with
       | ret=>
         obtain ⟨rfl,rfl,rfl⟩:=ctl h
         exact ⟨_,_,rfl,by simp [Conc.G,stepG,stepG.exec,seen0]⟩
       | skip=>
         obtain ⟨rfl,rfl,rfl⟩:=ctl h
         exact ⟨_,_,rfl,by simp [Conc.G,stepG,stepG.exec,seen0]⟩
       | label l=>
         obtain ⟨rfl,rfl,rfl⟩:=ctl h
         exact ⟨_,_,rfl,by simp [Conc.G,stepG,stepG.exec,seen0]⟩
       | seq a b=>
         obtain ⟨rfl,rfl,rfl⟩:=ctl h
         exact ⟨_,_,rfl,by simp [Conc.G,stepG,stepG.exec,seen0]⟩
       | cond c a b=>
         simp only [gsem] at h
         split at h
         · rename_i x hx
           obtain ⟨rfl,rfl,rfl⟩:=ctl h
           exact ⟨_,_,rfl,by simp only [Conc.G,stepG,stepG.exec,hx,seen0]⟩
         · exact (bad h).elim
       | block id b=>
         obtain ⟨rfl,rfl,rfl⟩:=ctl h
         exact ⟨_,_,rfl,by simp [Conc.G,stepG,stepG.exec,seen0]⟩
       | loop b=>
         obtain ⟨rfl,rfl,rfl⟩:=ctl h
         exact ⟨_,_,rfl,by simp [Conc.G,stepG,stepG.exec,seen0]⟩
       | scope b=>
         obtain ⟨rfl,rfl,rfl⟩:=ctl h
         exact ⟨_,_,rfl,by simp [Conc.G,stepG,stepG.exec,seen0]⟩
       | exit id=>
         simp only [gsem] at h
         split at h
         · rename_i k' hx
           obtain ⟨rfl,rfl,rfl⟩:=ctl h
           exact ⟨_,_,rfl,by simp [Conc.G,stepG,stepG.exec,hx,seen0]⟩
         · exact (bad h).elim
       | region id ops draw=>
         simp only [gsem] at h
         cases draw with
         | false=>
           obtain ⟨rfl,rfl,rfl⟩:=ctl h
           exact ⟨_,_,rfl,by simp [Conc.G,stepG,stepG.exec,seen0]⟩
         | true=>
           simp only [Bool.not_true,Bool.false_eq_true,if_false] at h
           have h' :(Sem.choose (.order fnid id) fun t=>Sem.pure ({fn:=fnid,tmps:=tmps,todo:= .inRegion ops (Region.schedule (P.follows .mixedOrders) ops t)::k,defers:=[],mode:= .run,kind:= .normal,roundOf:=none }::cs)).runT P w #[]=(.ok fs w',es):=h
           simp only [Sem.runT,Question.forced,Question.cut,Bool.false_eq_true,if_false,Prod.mk.injEq,Result.ok.injEq] at h'
           obtain ⟨⟨rfl,rfl⟩,rfl⟩:=h'
           exact ⟨_,_,rfl,by simp [Conc.G,stepG,stepG.exec,seen0,choose,Sem.run,Question.forced,Question.cut]⟩
       | _=>exact (bad h).elim
     | _=>exact (bad h).elim
theorem gsem_app {P:Program} {fr:Frame} {cs fs:List Frame} {w w' :World} (h:(gsem P (fr::cs)).run P w= .ok fs w') (base:List Frame):(gsem P (fr::(cs++base))).run P w= .ok (fs++base) w':=by
 have bad:∀{why:String},(Go.stuck why:Sem (List Frame)).run P w= .ok fs w' →False:=by
   intro why hc
   simp [Go.stuck] at hc
 obtain ⟨fnid,tmps,todo,defers,mode,kind,roundOf⟩:=fr
 cases mode with
 | panicking ch=>exact (bad h).elim
 | returning=>
   unfold gsem at h ⊢
   simp only at h ⊢
   cases hfn:P.funcs[fnid]? with
   | none=>rw [hfn] at h;exact (bad h).elim
   | some fn=>
     rw [hfn] at h
     cases cs with
     | nil=>exact (bad h).elim
     | cons c cs=>
       simp only [List.cons_append] at h ⊢
       have h' :((results fn tmps).bind fun v=>Sem.pure (c.finish v::cs)).run P w= .ok fs w':=h
       show ((results fn tmps).bind fun v=>Sem.pure (c.finish v::(cs++base))).run P w= .ok (fs++base) w'
       rw [Sem.run_bind'] at h' ⊢
       cases hr:(results fn tmps).run P w with
       | halt x w1=>rw [hr] at h';cases h'
       | ok v w1=>
         rw [hr] at h'
         simp only [Sem.run] at h'
         obtain ⟨rfl,rfl⟩:=h'
         rfl
 | run=>
   have ctl:∀{l:List Frame},(Pure.pure l:Sem (List Frame)).run P w= .ok fs w' →fs=l∧w' =w:=by
     intro l hc
     have hc' :Result.ok l w= .ok fs w':=hc
     simp only [Result.ok.injEq] at hc'
     exact ⟨hc'.1.symm,hc'.2.symm⟩
   have pu:∀(l:List Frame),(Pure.pure l:Sem (List Frame)).run P w= .ok l w:=fun _=>rfl
   cases todo with
   | nil=>obtain ⟨rfl,rfl⟩:=ctl h;exact pu _
   | cons it k=>
     cases it with
     | inBlock id=>obtain ⟨rfl,rfl⟩:=ctl h;exact pu _
     | inScope b=>obtain ⟨rfl,rfl⟩:=ctl h;exact pu _
     | inLoop b=>obtain ⟨rfl,rfl⟩:=ctl h;exact pu _
     | inRegion ops l=>
       cases l with
       | nil=>obtain ⟨rfl,rfl⟩:=ctl h;exact pu _
       | cons i l=>
         unfold gsem at h ⊢
         simp only at h ⊢
         cases ho:ops[i]? with
         | none=>rw [ho] at h;obtain ⟨rfl,rfl⟩:=ctl h;exact pu _
         | some o=>
           rw [ho] at h
           simp only at h ⊢
           by_cases hw:Region.wanted o (yielded ops tmps)=true
           · rw [if_pos hw] at h ⊢
             generalize ({fn:=fnid,tmps:=tmps,todo:= .inRegion ops (i::l)::k,defers:=defers,mode:= .run,kind:=kind,roundOf:=roundOf }:Frame)=fr at h ⊢
             have h' :((execOp fr.eval o).bind fun x=>afterOp P fr cs x).run P w= .ok fs w':=h
             show ((execOp fr.eval o).bind fun x=>afterOp P fr (cs++base) x).run P w= .ok (fs++base) w'
             rw [Sem.run_bind'] at h' ⊢
             cases hr:(execOp fr.eval o).run P w with
             | halt x w1=>rw [hr] at h';cases h'
             | ok x w1=>
               rw [hr] at h'
               cases x with
               | value v=>
                 have h2:Result.ok (fr.finish v::cs) w1= .ok fs w':=h'
                 simp only [Result.ok.injEq] at h2
                 obtain ⟨rfl,rfl⟩:=h2;rfl
               | skip=>
                 have h2:Result.ok (fr.finish undef::cs) w1= .ok fs w':=h'
                 simp only [Result.ok.injEq] at h2
                 obtain ⟨rfl,rfl⟩:=h2;rfl
               | enter f args=>
                 have h2:Result.ok (Frame.enter P f args .normal::fr::cs) w1= .ok fs w':=h'
                 simp only [Result.ok.injEq] at h2
                 obtain ⟨rfl,rfl⟩:=h2;rfl
               | _=>simp [afterOp,Go.stuck,Sem.run] at h'
           · rw [if_neg hw] at h ⊢
             obtain ⟨rfl,rfl⟩:=ctl h;exact pu _
     | code c=>
       cases c with
       | ret=>obtain ⟨rfl,rfl⟩:=ctl h;exact pu _
       | skip=>obtain ⟨rfl,rfl⟩:=ctl h;exact pu _
       | label l=>obtain ⟨rfl,rfl⟩:=ctl h;exact pu _
       | seq a b=>obtain ⟨rfl,rfl⟩:=ctl h;exact pu _
       | cond c a b=>
         unfold gsem at h ⊢
         simp only at h ⊢
         split at h
         · rename_i x hx
           obtain ⟨rfl,rfl⟩:=ctl h
           exact pu _
         · exact (bad h).elim
       | block id b=>obtain ⟨rfl,rfl⟩:=ctl h;exact pu _
       | loop b=>obtain ⟨rfl,rfl⟩:=ctl h;exact pu _
       | scope b=>obtain ⟨rfl,rfl⟩:=ctl h;exact pu _
       | exit id=>
         unfold gsem at h ⊢
         simp only at h ⊢
         split at h
         · rename_i k' hx
           obtain ⟨rfl,rfl⟩:=ctl h
           exact pu _
         · exact (bad h).elim
       | region id ops draw=>
         unfold gsem at h ⊢
         simp only at h ⊢
         cases draw with
         | false=>
           simp only [Bool.not_false,if_true] at h ⊢
           obtain ⟨rfl,rfl⟩:=ctl h;exact pu _
         | true=>
           simp only [Bool.not_true,Bool.false_eq_true,if_false] at h ⊢
           have h' :(Sem.choose (.order fnid id) fun t=>Sem.pure (({fn:=fnid,tmps:=tmps,todo:= .inRegion ops (Region.schedule (P.follows .mixedOrders) ops t)::k,defers:=defers,mode:= .run,kind:=kind,roundOf:=roundOf }:Frame)::cs)).run P w= .ok fs w':=h
           show (Sem.choose (.order fnid id) fun t=>Sem.pure (({fn:=fnid,tmps:=tmps,todo:= .inRegion ops (Region.schedule (P.follows .mixedOrders) ops t)::k,defers:=defers,mode:= .run,kind:=kind,roundOf:=roundOf }:Frame)::(cs++base))).run P w= .ok (fs++base) w'
           simp only [Sem.run,Question.forced,Question.cut,Bool.false_eq_true,if_false,Result.ok.injEq] at h' ⊢
           obtain ⟨rfl,rfl⟩:=h'
           exact ⟨rfl,rfl⟩
       | _=>exact (bad h).elim
     | _=>exact (bad h).elim
end Lo
end Go.Proofs.YtfphigmeppdocaaGreat
namespace Go.Proofs.YtfphigmeppdocaaGreat
namespace Lo
def OkkD (zo:FuncId) (S R:Program) (SB:SBs) {α β:Type} (D:α→Prop) (Q:α→β→Prop) (x:Sem α) (y:Sem β):Prop:=
 ∀s,Sh SB s→(∀h s',x.run S s= .halt h s' →okHalt h)∧∀a s',x.run S s= .ok a s' →Kept s s' ∧Sh SB s' ∧(D a∨((∃b,Q a b)∧∀w es,WR SB s w→Agr zo s s' w→∃b w' u,y.runT R w es=(.ok b w',es++u)∧Q a b∧Goes2 SB s s' w w' u))
section
variable {zo:FuncId} {S R:Program} {SB:SBs} {α β γ δ:Type} {D:γ→Prop}
theorem Okk.toD {Q:γ→δ→Prop} {x:Sem γ} {y:Sem δ} (h:Okk zo S R SB Q x y):OkkD zo S R SB D Q x y:=fun s hv=>⟨(h s hv).1,fun a s' hr=>
 let ⟨k,v,b,h1⟩:=(h s hv).2 a s' hr
 ⟨k,v,.inr ⟨b,h1⟩⟩⟩
theorem OkkD.bind {D0:α→Prop} {Q:α→β→Prop} {Q' :γ→δ→Prop} {x:Sem α} {y:Sem β} {f:α→Sem γ} {g:β→Sem δ} (h:OkkD zo S R SB D0 Q x y) (hk:∀a b,Q a b→OkkD zo S R SB D Q' (f a) (g b))
   (hD:∀a,D0 a→∀s,Sh SB s→(∀h s',(f a).run S s= .halt h s' →okHalt h)∧∀c s',(f a).run S s= .ok c s' →Kept s s' ∧Sh SB s' ∧D c):OkkD zo S R SB D Q' (x >>= f) (y >>= g):=by
 intro s hv
 refine ⟨fun hl s' hr=> ?_,fun c s' hr=> ?_⟩
 · have hr' :(x.bind f).run S s= .halt hl s':=hr
   rw [Sem.run_bind'] at hr'
   cases hx:x.run S s with
   | halt z s1=>rw [hx] at hr';cases hr';exact (h s hv).1 _ _ hx
   | ok a s1=>
     rw [hx] at hr'
     obtain ⟨_,v1,hd | ⟨⟨b0,hb0⟩,_⟩⟩:=(h s hv).2 a s1 hx
     · exact (hD a hd s1 v1).1 _ _ hr'
     · exact (hk a b0 hb0 s1 v1).1 _ _ hr'
 have hr' :(x.bind f).run S s= .ok c s':=hr
 rw [Sem.run_bind'] at hr'
 cases hx:x.run S s with
 | halt z s1=>rw [hx] at hr';cases hr'
 | ok a s1=>
   rw [hx] at hr'
   obtain ⟨k1,v1,hd | ⟨⟨b0,hb0⟩,h1⟩⟩:=(h s hv).2 a s1 hx
   · obtain ⟨k2,v2,d2⟩:=(hD a hd s1 v1).2 c s' hr'
     exact ⟨k1.trans k2,v2,.inl d2⟩
   · obtain ⟨k2,v2,hd⟩:=(hk a b0 hb0 s1 v1).2 c s' hr'
     refine ⟨k1.trans k2,v2,?_⟩
     rcases hd with hd | ⟨hb,_⟩
     · exact .inl hd
     · by_cases hDc:D c
       · exact .inl hDc
       refine .inr ⟨hb,fun w es hw hA=> ?_⟩
       have d1:=k1.dr
       have d2:=k2.dr
       obtain ⟨b,w1,u,r1,q1,g1⟩:=h1 w es hw fun i q hz hi=>hA i q hz (by omega)
       obtain ⟨_,_,hd | ⟨_,h2⟩⟩:=(hk a b q1 s1 v1).2 c s' hr'
       · exact absurd hd hDc
       obtain ⟨d,w',u',r2,q2,g2⟩:=h2 w1 (es++u) g1.wr fun i q hz hi=>by
         have:=hA (s1.drawn-s.drawn+i) q hz (by omega)
         rw [g1.kept.tape,g1.dr,Nat.add_assoc,this,k1.tape,show s.drawn+(s1.drawn-s.drawn+i)=s1.drawn+i by omega]
       refine ⟨d,w',u++u',?_,q2,g2.wr,?_,g1.kept.trans g2.kept,fun b hb=>(g2.bad b hb).trans (g1.bad b hb),fun e he=> ?_⟩
       · show (y.bind g).runT R w es=_
         rw [Sem.runT_bind',r1]
         simp only [r2,Array.append_assoc]
       · rw [g2.dr,g1.dr];omega
       · rcases Array.mem_append.1 he with he | he
         · exact (g1.ev e he).mono g2.kept.size
         · exact g2.ev e he
theorem Okk.bindD {Q:α→β→Prop} {Q' :γ→δ→Prop} {x:Sem α} {y:Sem β} {f:α→Sem γ} {g:β→Sem δ} (h:Okk zo S R SB Q x y) (hk:∀a b,Q a b→OkkD zo S R SB D Q' (f a) (g b)):OkkD zo S R SB D Q' (x >>= f) (y >>= g):=
 OkkD.bind (D0:=fun _=>False) h.toD hk fun _ h=>h.elim
theorem Okk.onD {Q' :γ→δ→Prop} {x:Sem α} {f:α→Sem γ} {g:α→Sem δ} (h:Okk zo S R SB Eq x x) (hk:∀a,OkkD zo S R SB D Q' (f a) (g a)):OkkD zo S R SB D Q' (x >>= f) (x >>= g):=h.bindD fun a b e=>by subst e;exact hk a
theorem haltD {Q' :γ→δ→Prop} {h:Halt} {y:Sem δ} (hh:okHalt h:=by trivial):OkkD zo S R SB D Q' (.halt h) y:=(halt_ok hh).toD
def builtinOk:Builtin→Bool
 | .append | .clear | .len | .cap | .copy | .min | .max=>true
 | _=>false
def opOk (S:Program):Op→Bool
 | .move _ | .assign _ | .pick .. | .alloc _ | .box .. | .build .. | .buildSlice .. | .load .. | .store .. | .nilCheck _ | .binOp .. | .unOp .. | .makeInterface .. | .makeFunc .. | .makeMap .. | .makeSlice .. | .slice .. | .fieldAddr .. | .field ..
 | .indexAddr .. | .index .. | .lookup .. | .mapUpdate .. | .insert .. | .extract .. | .panic _=>true
 | .convert s d _=>convOk S s d
 | .call {callee:= .value _,.. }=>true
 | .call {callee:= .builtin b,.. }=>builtinOk b
 | _=>false
def codeOk (S:Program):Code→Bool
 | .skip | .ret | .label _ | .exit _ | .refuse _=>true
 | .region _ ops _=>ops.all fun o=>opOk S o.op
 | .seq a b=>codeOk S a&&codeOk S b
 | .cond _ a b=>codeOk S a&&codeOk S b
 | .block _ b | .loop b | .scope b=>codeOk S b
 | _=>false
structure Fine (S R:Program) (ok:FuncId→Bool) (sp:FuncId):Prop where
 sm:Sm S R
 all : ∀ (f : FuncId) (fn : Func), S.funcs[f]? = some fn → fn.name ≠ "runtime.NumGoroutine" ∧ ∃ c, fn.body = some c ∧ codeOk S c = true
 same : ∀ f, ok f = true → ∃ fn fn' : Func, S.funcs[f]? = some fn ∧ R.funcs[f]? = some fn' ∧ (f ≠ sp → fn' = fn) ∧ fn'.body.isSome = true ∧ fn'.name ≠ "runtime.NumGoroutine"
 dead:∀(f:FuncId) (fn:Func),ok f=false→S.funcs[f]? =some fn→∃why,fn.body=some (.refuse why)
def Unk (S:Program) (ok:FuncId→Bool) (n:Next):Prop:=∃f x,n= .enter f x∧ok f=false∧∃fn,S.funcs[f]? =some fn
def Good (S:Program):Next→Prop
 | .value _ | .skip=>True
 | .enter f _=>∃fn,S.funcs[f]? =some fn
 | _=>False
def NQ (S:Program) (a b:Next):Prop:=a=b∧Good S a
end
section
variable {zo:FuncId} {S R:Program} {SB:SBs} {ok:FuncId→Bool} {sp:FuncId}
theorem valD {x:Sem Value} (h:Okk zo S R SB Eq x x):OkkD zo S R SB (Unk S ok) (NQ S) (do pure (Next.value (←x))) (do pure (Next.value (←x))):=
 (Okk.bind (Q':=NQ S) h fun a b e=>by subst e;exact pure_ok ⟨rfl,by trivial⟩).toD
theorem unitD {x:Sem Unit} (h:Okk zo S R SB Eq x x):OkkD zo S R SB (Unk S ok) (NQ S) (do x;pure Next.skip) (do x;pure Next.skip):=
 (Okk.bind (Q':=NQ S) h fun a b e=>pure_ok ⟨rfl,by trivial⟩).toD
theorem callFunc_ok (F:Fine S R ok sp) (f:FuncId) (x:Array Value):OkkD zo S R SB (Unk S ok) (NQ S) (callFunc f x) (callFunc f x):=by
 unfold callFunc
 refine program_ok.bindD ?_
 rintro p q ⟨hp,hq⟩
 rw [hp,hq]
 cases hf:S.funcs[f]? with
 | none=>exact haltD
 | some fn=>
   obtain ⟨hn,c,hb,_⟩:=F.all f fn hf
   have e1 : (fn.name == "runtime.NumGoroutine") = false := by simpa using hn
   simp only [e1,hb,Option.isNone_some,Bool.false_eq_true,if_false]
   intro s hv
   refine ⟨fun h s' hr=>(by cases hr),fun a s' hr=> ?_⟩
   cases hr
   refine ⟨.refl _,hv,?_⟩
   cases ho:ok f with
   | false=>exact .inl ⟨f,x,rfl,ho,fn,hf⟩
   | true=>
     obtain ⟨fn1,fn',h1,h2,_,hb',hn'⟩:=F.same f ho
     refine .inr ⟨⟨_,rfl,fn,hf⟩,fun w es hw _=>⟨.enter f x,w,#[],?_,⟨rfl,fn,hf⟩,.refl hw⟩⟩
     have e2 : (fn'.name == "runtime.NumGoroutine") = false := by simpa using hn'
     have e3:fn'.body.isNone=false:=by cases h:fn'.body<;>simp [h] at hb' ⊢
     simp only [h2,e2,e3,Bool.false_eq_true,if_false,Array.append_empty]
     rfl
theorem callMethod_ok (F:Fine S R ok sp) (r:Value) (name:String) (x:Array Value):OkkD zo S R SB (Unk S ok) (NQ S) (callMethod r name x) (callMethod r name x):=by
 unfold callMethod
 split
 · refine program_ok.bindD ?_
   rintro p q ⟨hp,hq⟩
   rw [hp,hq,F.sm.types]
   exact (method_ok F.sm _ _ _ _).onD fun m=>callFunc_ok F _ _
 · exact (panic_ok F.sm).toD
 · exact haltD
theorem invoke_ok (F:Fine S R ok sp) (fn:Fn) (c x:Array Value):OkkD zo S R SB (Unk S ok) (NQ S) (invoke (.fn fn c) x) (invoke (.fn fn c) x):=by
 unfold invoke
 cases fn with
 | func f=>exact callFunc_ok F _ _
 | method name=>
   dsimp only
   split
   · exact callMethod_ok F _ _ _
   · exact haltD
 | methodOf t name=>
   dsimp only
   split
   · refine (under_ok F.sm _).onD fun d=> ?_
     exact callMethod_ok F _ _ _
   · exact haltD
 | via t p f b=>
   dsimp only
   split
   · exact (recvVia_ok F.sm _ _ _ _).onD fun _=>callFunc_ok F _ _
   · exact haltD
 | yield l=>
   unfold Instr.yield Instr.getLoop
   refine Okk.toD ?_
   refine Okk.bind (Q:=fun _ _=>False) ?_ fun _ _ h=>h.elim
   refine (getObj_ok _).bind fun o o' h=> ?_
   rcases h with ⟨rfl,_,h,_⟩ | ⟨t,z,t',rfl,rfl⟩ | ⟨o,rfl,rfl,_⟩
   · cases o<;>first | exact stuck_ok | exact absurd rfl (h _)
   · exact stuck_ok
   · exact stuck_ok
theorem nev_panicOp (H:Sm S R) (v:Value):Nev S SB (Instr.panic v):=by
 unfold Instr.panic
 split
 · exact nev_halt _
 · refine Nev.bind ?_ fun n=> ?_
   · unfold Instr.panicnil
     refine Un.bind (fun s hv=>⟨fun h s' hr=>(by cases hr),fun a s' hr=> ?_⟩) fun r=> ?_
     · cases hr
       exact ⟨hv.dv,hv.nl,hv.bad⟩
     · cases r
       case strings env=>exact Un.bind (program_ok (R:=R)).un fun p=>(ret_ok (R:=R) _).un
       all_goals exact (stuck_ok (R:=R) (Q:=Eq) (y:=pure 0)).un
   · split
     · exact nev_halt _
     · exact nev_panic H _
 · exact nev_halt _
theorem execOp_ok (F:Fine S R ok sp) {o:Oper} (ho:opOk S o.op=true) (ev:Operand→Value):OkkD zo S R SB (Unk S ok) (NQ S) (execOp ev o) (execOp ev o):=by
 obtain ⟨dst,op,type,pos,after,guard⟩:=o
 have H:=F.sm
 unfold execOp
 cases op<;>simp only [opOk,Bool.false_eq_true] at ho
 case move x=>exact (pure_ok ⟨rfl,by trivial⟩).toD
 case assign x=>exact (pure_ok ⟨rfl,by trivial⟩).toD
 case pick c a b=>
   refine (bool_ok _).onD fun r=> ?_
   exact (pure_ok ⟨rfl,by trivial⟩).toD
 case alloc t=>exact valD (alloc_ok H t)
 case box t x=>exact valD (box_ok t _)
 case build t ps=>exact valD (build_ok H _ _)
 case buildSlice t n ps=>exact valD (buildSlice_ok H _ _ _)
 case load t x=>exact valD (loadAt_ok H t _)
 case store t a v=>exact unitD (storeAt_ok H t _ _)
 case nilCheck x=>
   simp only
   split
   · exact (panic_ok H).toD
   · exact (panic_ok H).toD
   · exact (panic_ok H).toD
   · split
     · exact (panic_ok H).toD
     · refine program_ok.bindD ?_
       rintro p q ⟨hp,hq⟩
       rw [hp,hq,H.types]
       refine (nilAhead_ok H _ _ _ _).onD fun r=> ?_
       split
       · exact haltD
       · exact (pure_ok ⟨rfl,by trivial⟩).toD
     · exact (pure_ok ⟨rfl,by trivial⟩).toD
   · exact (pure_ok ⟨rfl,by trivial⟩).toD
 case binOp op t x y yt=>exact valD ((guard_ok H _ _ _ _ _ _).on fun _=>binOp_ok H _ _ _ _)
 case unOp op t x=>exact valD (unary_ok op _)
 case convert s d x=>exact valD (convert_ok H ho _)
 case makeInterface t x=>exact valD (makeIface_ok H _ _)
 case makeFunc fn a b=>exact valD (ret_ok _)
 case makeMap t r=>exact valD (makeMap_ok H _ _)
 case makeSlice t l c=>exact valD (makeSlice_ok H _ _ _)
 case slice t x l h m=>exact valD (sliceAt_ok H t _ _ _ _)
 case fieldAddr t x i=>exact valD (fieldAt_ok H _ _ _)
 case field t x i=>exact valD (field_ok H _ _ _)
 case indexAddr t x i=>exact valD (indexAt_ok H _ _ _)
 case index t x i=>exact valD (index_ok H _ _ _)
 case lookup t x i b=>exact valD (lookup_ok H _ _ _ _)
 case mapUpdate t m k x=>exact unitD (mapUpdate_ok H _ _ _ _)
 case insert t m k x=>exact unitD (mapUpdate_ok H _ _ _ _)
 case extract x i=>exact valD (extract_ok _ _)
 case panic x=>exact valD (nev_panicOp H _).okk
 case call c=>
   obtain ⟨callee,args,ts⟩:=c
   cases callee with
   | value f=>
     simp only [resolve,Deferred.ofValue]
     generalize ev f=v
     cases v
     case func fn first cap=>exact invoke_ok F _ _ _
     case nilFunc=>
       show OkkD zo S R SB (Unk S ok) (NQ S) (runtimePanic .nilDeref) (runtimePanic .nilDeref)
       exact (panic_ok H).toD
     all_goals exact (Nev.left (nev_halt _)).okk.toD
   | builtin b=>
     simp only at ho
     cases b<;>simp only [builtinOk,Bool.false_eq_true] at ho
     case append=>exact valD (append_ok H _ _ _)
     case clear=>exact valD (clear_ok H _ _ _)
     case len=>exact valD (len_ok H _ _ _)
     case cap=>exact valD (cap_ok H _ _ _)
     case copy=>exact valD (copy_ok H _ _ _)
     case min=>exact valD (min_ok _ _ _)
     case max=>exact valD (max_ok _ _ _)
   | invoke r m=>simp at ho
end
end Lo
end Go.Proofs.YtfphigmeppdocaaGreat
namespace Go.Proofs.YtfphigmeppdocaaGreat
namespace Lo
def itemOk (S:Program):Item -> Bool
 | .code c=>codeOk S c
 | .inBlock _=>true
 | .inLoop b | .inScope b=>codeOk S b
 | .inRegion ops _=>ops.all fun o=>opOk S o.op
 | _=>false
structure FOk (S:Program) (f:Frame):Prop where
 known:∃fn,S.funcs[f.fn]? =some fn
 calm:f.mode= .run \/ f.mode= .returning
 plain:Plain f
 items:f.todo.all (itemOk S)=true
def All (S:Program) (fs:List Frame):Prop:=∀f∈fs,FOk S f
section
variable {zo:FuncId} {S R:Program} {SB:SBs} {ok:FuncId -> Bool} {sp:FuncId}
theorem FOk.to {f:Frame} (h:FOk S f) {k:List Item} (hk:k.all (itemOk S)=true):FOk S {f with todo:=k }:=⟨h.known,h.calm,⟨h.plain.1,h.plain.2,h.plain.3⟩,hk⟩
theorem FOk.finish {f:Frame} (h:FOk S f) (v:Value):FOk S (f.finish v):=by
 have hp:=finish_plain h.plain v
 obtain ⟨fnid,tmps,todo,defers,mode,kind,roundOf⟩:=f
 obtain ⟨h1,h2,h3,h4⟩:=h
 cases todo with
 | nil=>exact ⟨h1,h2,hp,h4⟩
 | cons it k=>
   have h4':=h4
   simp only [List.all_cons,Bool.and_eq_true] at h4'
   cases it with
   | inRegion ops l=>
     cases l with
     | nil=>exact ⟨h1,h2,hp,h4⟩
     | cons i l=>exact ⟨h1,h2,hp,h4⟩
   | inRangeFunc l=>exact absurd h4'.1 (by simp [itemOk])
   | beginRound=>exact absurd h4'.1 (by simp [itemOk])
   | call d wr re sa=>exact absurd h4'.1 (by simp [itemOk])
   | extern r a=>exact absurd h4'.1 (by simp [itemOk])
   | _=>exact ⟨h1,h2,hp,h4⟩
theorem FOk.enter (F:Fine S R ok sp) {f:FuncId} {fn:Func} (hf:S.funcs[f]? =some fn) (x:Array Value):FOk S (Frame.enter S f x .normal):=by
 obtain ⟨_,c,hb,hc⟩:=F.all f fn hf
 exact ⟨⟨fn,hf⟩,.inl rfl,⟨rfl,rfl,rfl⟩,by simp [Frame.enter,hf,hb,itemOk,hc]⟩
theorem exit_all {id:Nat}:∀{k k' :List Item},exitTo id k=some k' -> k.all (itemOk S)=true -> k'.all (itemOk S)=true
 | [],k',h,_=>by cases h
 | it::k,k',h,ha=>by
   simp only [List.all_cons,Bool.and_eq_true] at ha
   cases it with
   | inBlock i=>
     simp only [exitTo] at h
     split at h
     · cases h;exact ha.2
     · exact exit_all h ha.2
   | _=>exact exit_all (k:=k) (by simpa only [exitTo] using h) ha.2
def Bad (S:Program) (ok:FuncId -> Bool) (fs l:List Frame):Prop:=All S l /\ ∃f x,ok f=false /\ l=Frame.enter S f x .normal::fs
def Lk (S R:Program) (sp:FuncId) (fs l l' :List Frame):Prop:=All S l /\ ((l=l' /\ ∀x,l≠Frame.enter S sp x .normal::fs) \/ ∃x,l=Frame.enter S sp x .normal::fs /\ l' =Frame.enter R sp x .normal::fs)
theorem all_cons {f:Frame} {cs:List Frame}:All S (f::cs)↔FOk S f /\ All S cs:=by simp [All]
theorem results_ok (H:Sm S R) (fn:Func) (x:Array Value):Okk zo S R SB Eq (results fn x) (results fn x):=by
 unfold results
 rw [Array.mapM_eq_mapM_toList,map_eq_pure_bind,bind_assoc]
 refine (mapM_ok _ (fun r=> ?_) _).on fun l=> ?_
 · cases r with
   | tmp t=>exact ret_ok _
   | cell a t=>exact (asAddr_ok H _).on fun _=>loadVar_ok H _ _
 · rw [pure_bind];exact ret_ok _
theorem enter_same (F:Fine S R ok sp) {f:FuncId} (ho:ok f=true) (hs:f≠sp) (x:Array Value):Frame.enter R f x .normal=Frame.enter S f x .normal:=by
 obtain ⟨fn,fn',h1,h2,h3,_⟩:=F.same f ho
 have:=h3 hs
 subst this
 simp [Frame.enter,h1,h2]
theorem gsem_ok (F:Fine S R ok sp) {f:Frame} {cs:List Frame} (h:All S (f::cs)) (hko:ok f.fn=true) (hs:f.fn≠sp):OkkD sp S R SB (Bad S ok (f::cs)) (Lk S R sp (f::cs)) (gsem S (f::cs)) (gsem R (f::cs)):=by
 obtain ⟨hf,hc⟩:=all_cons.1 h
 have hfin:∀v,FOk S (f.finish v):=hf.finish
 have hto:∀{k:List Item},k.all (itemOk S)=true -> FOk S {f with todo:=k }:=fun h=>hf.to h
 have hret:FOk S {f with mode:= .returning }:=⟨hf.known,.inr rfl,⟨hf.plain.1,hf.plain.2,hf.plain.3⟩,hf.items⟩
 have hsame:S.funcs[f.fn]? =R.funcs[f.fn]? :=by
   obtain ⟨fn,fn',h1,h2,h3,_⟩:=F.same _ hko
   rw [h1,h2,h3 hs]
 have pu:∀{g:Frame},FOk S g -> OkkD sp S R SB (Bad S ok (f::cs)) (Lk S R sp (f::cs)) (pure (g::cs)) (pure (g::cs)):=fun hg=>(pure_ok ⟨all_cons.2 ⟨hg,hc⟩,.inl ⟨rfl,fun x e=>by have:=congrArg List.length e;simp at this⟩⟩).toD
 have hh:=h
 clear h
 obtain ⟨fnid,tmps,todo,defers,mode,kind,roundOf⟩:=f
 obtain ⟨⟨fn0,h1⟩,h7,h8,h10⟩:=hf
 simp only at h7 h10 hsame
 rcases h7 with rfl | rfl
 · have one:∀{k:List Item},k.all (itemOk S)=true -> OkkD sp S R SB (Bad S ok _) (Lk S R sp _) (pure (({fn:=fnid,tmps:=tmps,todo:=k,defers:=defers,mode:= .run,kind:=kind,roundOf:=roundOf }:Frame)::cs)) (pure (({fn:=fnid,tmps:=tmps,todo:=k,defers:=defers,mode:= .run,kind:=kind,roundOf:=roundOf }:Frame)::cs)):=fun hk=>pu (hto hk)
   cases todo with
   | nil=>exact pu hret
   | cons it k=>
     simp only [List.all_cons,Bool.and_eq_true] at h10
     obtain ⟨hi,hk⟩:=h10
     cases it with
     | inBlock id=>exact one hk
     | inScope b=>exact one hk
     | inLoop b=>exact one (by simp only [List.all_cons,Bool.and_eq_true];exact ⟨hi,hi,hk⟩)
     | inRegion ops l=>
       cases l with
       | nil=>exact one hk
       | cons i l=>
         unfold gsem
         simp only
         cases ho:ops[i]? with
         | none=>exact pu (hfin undef)
         | some o=>
           simp only
           split
           · have hoo:opOk S o.op=true:=Array.all_eq_true_iff_forall_mem.1 hi o (Array.mem_of_getElem? ho)
             refine OkkD.bind (execOp_ok F hoo _) (fun x y h=> ?_) (fun x h=> ?_)
             · obtain ⟨rfl,hg⟩:=h
               cases x with
               | value v=>exact pu (hfin v)
               | skip=>exact pu (hfin undef)
               | enter g y=>
                 intro s hv
                 refine ⟨fun h s' hr=>(by cases hr),fun a s' hr=> ?_⟩
                 cases hr
                 obtain ⟨fn,hfn⟩:=hg
                 have hA:All S (Frame.enter S g y .normal::_::cs):=all_cons.2 ⟨FOk.enter F hfn y,hh⟩
                 refine ⟨.refl _,hv,?_⟩
                 cases hog:ok g with
                 | false=>exact .inl ⟨hA,g,y,hog,rfl⟩
                 | true=>
                   by_cases hgs:g=sp
                   · subst hgs
                     exact .inr ⟨⟨_,hA,.inr ⟨y,rfl,rfl⟩⟩,fun w es hw _=>⟨_,w,#[],by simp only [Array.append_empty];rfl,⟨hA,.inr ⟨y,rfl,rfl⟩⟩,.refl hw⟩⟩
                   · refine .inr ⟨⟨_,hA,.inl ⟨rfl,fun x e=>hgs (congrArg Frame.fn (List.cons.inj e).1)⟩⟩,fun w es hw _=>⟨_,w,#[],by simp only [Array.append_empty];rfl,⟨hA,.inl ⟨?_,fun x e=>hgs (congrArg Frame.fn (List.cons.inj e).1)⟩⟩,.refl hw⟩⟩
                     rw [enter_same F hog hgs]
               | _=>exact hg.elim
             · obtain ⟨g,y,rfl,hg,fn,hfn⟩:=h
               intro s hv
               refine ⟨fun h s' hr=>(by cases hr),fun c s' hr=> ?_⟩
               cases hr
               exact ⟨.refl _,hv,all_cons.2 ⟨FOk.enter F hfn y,hh⟩,g,y,hg,rfl⟩
           · exact pu (hfin undef)
     | code c=>
       cases c with
       | ret=>exact pu hret
       | skip=>exact one hk
       | label l=>exact one hk
       | seq a b=>
         simp only [itemOk,codeOk,Bool.and_eq_true] at hi
         exact one (by simp only [List.all_cons,Bool.and_eq_true];exact ⟨hi.1,hi.2,hk⟩)
       | cond c a b=>
         simp only [itemOk,codeOk,Bool.and_eq_true] at hi
         unfold gsem
         simp only
         generalize Frame.eval _ c=v
         cases v with
         | bool x=>
           cases x
           · exact one (by simp only [List.all_cons,Bool.and_eq_true];exact ⟨hi.2,hk⟩)
           · exact one (by simp only [List.all_cons,Bool.and_eq_true];exact ⟨hi.1,hk⟩)
         | _=>exact haltD
       | block id b=>exact one (by simp only [List.all_cons,Bool.and_eq_true];exact ⟨hi,rfl,hk⟩)
       | loop b=>exact one (by simp only [List.all_cons,Bool.and_eq_true];exact ⟨hi,hi,hk⟩)
       | scope b=>exact one (by simp only [List.all_cons,Bool.and_eq_true];exact ⟨hi,hi,hk⟩)
       | exit id=>
         unfold gsem
         simp only
         cases he:exitTo id k with
         | none=>exact haltD
         | some k' =>exact one (exit_all he hk)
       | region id ops draw=>
         unfold gsem
         simp only
         cases draw with
         | false=>exact one (by simp only [List.all_cons,Bool.and_eq_true];exact ⟨hi,hk⟩)
         | true=>
           simp only [Bool.not_true,Bool.false_eq_true,if_false]
           rw [<- F.sm.follows]
           exact (choose_ok _ (fun j e=>by cases e;exact hs rfl)).onD fun t=>one (by simp only [List.all_cons,Bool.and_eq_true];exact ⟨hi,hk⟩)
       | rangeFunc=>simp [itemOk,codeOk] at hi
       | goto=>simp [itemOk,codeOk] at hi
       | refuse=>exact haltD
     | inRangeFunc=>simp [itemOk] at hi
     | endRangeFunc=>simp [itemOk] at hi
     | beginRound=>simp [itemOk] at hi
     | call=>simp [itemOk] at hi
     | extern=>simp [itemOk] at hi
 · unfold gsem
   simp only at hsame ⊢
   rw [<- hsame,h1]
   cases cs with
   | nil=>exact haltD
   | cons g cs=>
     simp only
     obtain ⟨hg,hc⟩:=all_cons.1 hc
     exact (results_ok F.sm _ _).onD fun v=>(pure_ok ⟨all_cons.2 ⟨hg.finish v,hc⟩,.inl ⟨rfl,fun x e=>by have:=congrArg List.length e;simp at this⟩⟩).toD
end
end Lo
end Go.Proofs.YtfphigmeppdocaaGreat
