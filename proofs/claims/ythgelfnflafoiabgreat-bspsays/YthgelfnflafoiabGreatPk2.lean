/-
  Several texts in one.
-/
import Derived.Calls
import Derived.Conc.Own
import Derived.Conc.Events
import Derived.Test.YthgelfnflafoiabGreatPk1
namespace Go.Proofs.YthgelfnflafoiabGreat
namespace Sim
structure Ent where
 blk : Nat
 sh : Nat
 own : Bool
abbrev Ren := Nat → Option Ent
def Ren.le (ρ σ : Ren) : Prop := ∀ b e, ρ b = some e → σ b = some e
def Ren.add (ρ : Ren) (r r' : Nat) : Ren := fun b => if b = r then some ⟨r', 0, true⟩ else ρ b
theorem Ren.le_refl (ρ : Ren) : ρ.le ρ := fun _ _ h => h
theorem Ren.le_trans {ρ σ τ : Ren} (h : ρ.le σ) (h' : σ.le τ) : ρ.le τ := fun b e x => h' b e (h b e x)
theorem Ren.le_add {ρ : Ren} {r : Nat} (h : ρ r = none) (r' : Nat) : ρ.le (ρ.add r r') := by
 intro b e hb
 unfold Ren.add
 split
 · subst_vars; rw [h] at hb; cases hb
 · exact hb
def ARel (ρ : Ren) (a a' : Addr) : Prop := ∃ e, ρ a.block = some e ∧ a.spot = none ∧ a' = ⟨e.blk, a.off + e.sh, none⟩
theorem ARel.mono {ρ σ : Ren} (h : ρ.le σ) {a a' : Addr} (x : ARel ρ a a') : ARel σ a a' :=
 let ⟨e, h1, h2, h3⟩ := x; ⟨e, h _ _ h1, h2, h3⟩
theorem ARel.add {ρ : Ren} {a a' : Addr} (x : ARel ρ a a') (n : Nat) : ARel ρ (a.add n) (a'.add n) := by
 obtain ⟨e, h1, h2, rfl⟩ := x
 unfold Addr.add
 split
 · exact ⟨e, h1, h2, rfl⟩
 · exact ⟨e, h1, rfl, by simp; omega⟩
inductive VRel (F : FuncId → Prop) (ρ : Ren) : Value → Value → Prop
 | bool (b : Bool) : VRel F ρ (.bool b) (.bool b)
 | int (k : IntKind) (n : Int) : VRel F ρ (.int k n) (.int k n)
 | string (s : ByteArray) : VRel F ρ (.string s) (.string s)
 | nilPtr : VRel F ρ (.pointer none) (.pointer none)
 | ptr {a a' : Addr} : ARel ρ a a' → VRel F ρ (.pointer (some a)) (.pointer (some a'))
 | nilSlice (l c : Nat) : VRel F ρ (.slice none l c) (.slice none l c)
 | slice {a a' : Addr} (l c : Nat) : ARel ρ a a' → VRel F ρ (.slice (some a) l c) (.slice (some a') l c)
 | void (a a' : Addr) : VRel F ρ (.slice (some a) 0 0) (.slice (some a') 0 0)
 | nilFunc : VRel F ρ .nilFunc .nilFunc
 | nilIface : VRel F ρ .nilIface .nilIface
 | func {f : FuncId} {x x' y y' : Array Value} : F f → x.size = x'.size → (∀ (i : Nat) v v', x[i]? = some v → x'[i]? = some v' → VRel F ρ v v') →
     y.size = y'.size → (∀ (i : Nat) v v', y[i]? = some v → y'[i]? = some v' → VRel F ρ v v') → VRel F ρ (.func (.func f) x y) (.func (.func f) x' y')
 | iface (t : TypeId) {v v' : Value} : VRel F ρ v v' → VRel F ρ (.iface t v) (.iface t v')
 | agg {x x' : Array Value} : x.size = x'.size → (∀ (i : Nat) v v', x[i]? = some v → x'[i]? = some v' → VRel F ρ v v') → VRel F ρ (.agg x) (.agg x')
 | tuple {x x' : Array Value} : x.size = x'.size → (∀ (i : Nat) v v', x[i]? = some v → x'[i]? = some v' → VRel F ρ v v') → VRel F ρ (.tuple x) (.tuple x')
def AVRel (F : FuncId → Prop) (ρ : Ren) (x x' : Array Value) : Prop := x.size = x'.size ∧ ∀ (i : Nat) v v', x[i]? = some v → x'[i]? = some v' → VRel F ρ v v'
section
variable {F : FuncId → Prop} {ρ σ : Ren}
theorem VRel.mono (h : ρ.le σ) {v v' : Value} (x : VRel F ρ v v') : VRel F σ v v' := by
 induction x with
 | bool b => exact .bool b
 | int k n => exact .int k n
 | string s => exact .string s
 | nilPtr => exact .nilPtr
 | ptr a => exact .ptr (a.mono h)
 | nilSlice l c => exact .nilSlice l c
 | slice l c a => exact .slice l c (a.mono h)
 | void a a' => exact .void a a'
 | nilFunc => exact .nilFunc
 | nilIface => exact .nilIface
 | func hf h1 _ h2 _ i1 i2 => exact .func hf h1 i1 h2 i2
 | iface t _ i => exact .iface t i
 | agg h1 _ i => exact .agg h1 i
 | tuple h1 _ i => exact .tuple h1 i
theorem AVRel.mono (h : ρ.le σ) {x x' : Array Value} (r : AVRel F ρ x x') : AVRel F σ x x' := ⟨r.1, fun i v v' a b => (r.2 i v v' a b).mono h⟩
theorem AVRel.getD {x x' : Array Value} (r : AVRel F ρ x x') (i : Nat) {d d' : Value} (hd : VRel F ρ d d') : VRel F ρ (x.getD i d) (x'.getD i d') := by
 rw [Array.getD_eq_getD_getElem?, Array.getD_eq_getD_getElem?]
 rcases Nat.lt_or_ge i x.size with h | h
 · have h' : i < x'.size := r.1 ▸ h
   rw [Array.getElem?_eq_getElem h, Array.getElem?_eq_getElem h']
   exact r.2 i _ _ (Array.getElem?_eq_getElem h) (Array.getElem?_eq_getElem h')
 · rw [Array.getElem?_eq_none h, Array.getElem?_eq_none (r.1 ▸ h)]
   exact hd
theorem AVRel.empty : AVRel F ρ #[] #[] := ⟨rfl, fun i v v' h => by simp at h⟩
theorem AVRel.push {x x' : Array Value} (r : AVRel F ρ x x') {v v' : Value} (h : VRel F ρ v v') : AVRel F ρ (x.push v) (x'.push v') := by
 refine ⟨by simp [r.1], fun i a a' ha ha' => ?_⟩
 rw [Array.getElem?_push] at ha ha'
 rw [← r.1] at ha'
 split at ha
 · rename_i hi
   rw [if_pos hi] at ha'
   cases ha; cases ha'; exact h
 · rename_i hi
   rw [if_neg hi] at ha'
   exact r.2 i a a' ha ha'
theorem AVRel.append {x x' y y' : Array Value} (r : AVRel F ρ x x') (q : AVRel F ρ y y') : AVRel F ρ (x ++ y) (x' ++ y') := by
 refine ⟨by simp [r.1, q.1], fun i a a' ha ha' => ?_⟩
 rw [Array.getElem?_append] at ha ha'
 rw [← r.1] at ha'
 split at ha
 · rename_i hi
   rw [if_pos hi] at ha'
   exact r.2 i a a' ha ha'
 · rename_i hi
   rw [if_neg hi] at ha'
   exact q.2 _ a a' ha ha'
theorem AVRel.one {v v' : Value} (h : VRel F ρ v v') : AVRel F ρ #[v] #[v'] := by
 have := (AVRel.empty (F := F) (ρ := ρ)).push h
 simpa using this
theorem AVRel.set {x x' : Array Value} (r : AVRel F ρ x x') (d : Nat) {v v' : Value} (h : VRel F ρ v v') : AVRel F ρ (x.setIfInBounds d v) (x'.setIfInBounds d v') := by
 refine ⟨by simp [r.1], fun i a a' ha ha' => ?_⟩
 rw [Array.getElem?_setIfInBounds] at ha ha'
 rw [← r.1] at ha'
 split at ha
 · rename_i hi
   rw [if_pos hi] at ha'
   split at ha
   · rename_i hs
     rw [if_pos hs] at ha'
     cases ha; cases ha'; exact h
   · cases ha
 · rename_i hi
   rw [if_neg hi] at ha'
   exact r.2 i a a' ha ha'
theorem AVRel.extract {x x' : Array Value} (r : AVRel F ρ x x') (m n : Nat) : AVRel F ρ (x.extract m n) (x'.extract m n) := by
 refine ⟨by simp [r.1], fun i a a' ha ha' => ?_⟩
 rw [Array.getElem?_extract] at ha ha'
 rw [← r.1] at ha'
 split at ha
 · rename_i hi
   rw [if_pos hi] at ha'
   exact r.2 _ a a' ha ha'
 · cases ha
theorem VRel.cells {v v' : Value} (h : VRel F ρ v v') : AVRel F ρ v.cells v'.cells := by
 cases h with
 | agg h1 h2 => exact ⟨h1, h2⟩
 | bool b => exact .one (.bool b)
 | int k n => exact .one (.int k n)
 | string s => exact .one (.string s)
 | nilPtr => exact .one .nilPtr
 | ptr a => exact .one (.ptr a)
 | nilSlice l c => exact .one (.nilSlice l c)
 | slice l c a => exact .one (.slice l c a)
 | void a a' => exact .one (.void a a')
 | nilFunc => exact .one .nilFunc
 | nilIface => exact .one .nilIface
 | func hf h1 i1 h2 i2 => exact .one (.func hf h1 i1 h2 i2)
 | iface t i => exact .one (.iface t i)
 | tuple h1 i => exact .one (.tuple h1 i)
end
def noType : TypeId := 4294967295
def BRel (F : FuncId → Prop) (ρ : Ren) (s w : World) (b : Nat) (e : Ent) : Prop :=
 (∃ c t fr c' t' fr', s.heap[b]? = some (.cells c t fr) ∧ w.heap[e.blk]? = some (.cells c' t' fr') ∧
   (∀ (i : Nat) v, c[i]? = some v → ∃ v', c'[i + e.sh]? = some v' ∧ VRel F ρ v v') ∧
   (e.own = true → e.sh = 0 ∧ fr = (0, 0) ∧ fr' = (0, 0) ∧ c'.size = c.size ∧ t = t') ∧ (e.own = false → fr = (0, c.size) ∧ t = noType)) ∨
 (e.own = true ∧ e.sh = 0 ∧ ∃ a a' lost, s.heap[b]? = some (.number a lost) ∧ w.heap[e.blk]? = some (.number a' lost) ∧ ARel ρ a a')
structure WRel (F : FuncId → Prop) (ρ : Ren) (s w : World) : Prop where
 blk : ∀ b e, ρ b = some e → BRel F ρ s w b e
 inj : ∀ b1 b2 e1 e2, ρ b1 = some e1 → ρ b2 = some e2 → e1.blk = e2.blk → e1.own = true → b1 = b2
def Agree (K : Nat) (s w : World) : Prop := ∀ i q, i < K → s.tape (s.drawn + i) q = w.tape (w.drawn + i) q
def okHalt : Halt → Prop
 | .panic _ | .stuck _ => True
 | .unsupported (.initOrder _) => False
 | .unsupported _ => True
 | _ => False
def safeMark : Mark → Prop
 | .extern _ | .noRoom => True
 | _ => False
def goIn : Code → Bool
 | .region _ ops _ => ops.any fun o => match o.op with | .go _ => true | _ => false
 | .seq a b => goIn a || goIn b
 | .cond _ a b => goIn a || goIn b
 | .block _ b | .loop b | .scope b => goIn b
 | _ => false
def hasGo (fn : Func) : Bool := match fn.body with | none => false | some c => goIn c
def OrdOk (R : Program) (q : Question) : Prop := ∀ f id, q = .order f id → ∃ fn, R.funcs[f]? = some fn ∧ hasGo fn = false
inductive SRel (S R : Program) (F : FuncId → Prop) {α β : Type} (Q : Ren → α → β → Prop) : Ren → Sem α → Sem β → Prop
 | pure {ρ : Ren} {a : α} {b : β} : Q ρ a b → SRel S R F Q ρ (.pure a) (.pure b)
 | load {ρ : Ren} {a a' : Addr} {k : Value → Sem α} {k' : Value → Sem β} : ARel ρ a a' → (∀ v v', VRel F ρ v v' → SRel S R F Q ρ (k v) (k' v')) → SRel S R F Q ρ (.load .plain a k) (.load .plain a' k')
 | store {ρ : Ren} {a a' : Addr} {v v' : Value} {k : Sem α} {k' : Sem β} : ARel ρ a a' → VRel F ρ v v' → SRel S R F Q ρ k k' → SRel S R F Q ρ (.store .plain a v k) (.store .plain a' v' k')
 | new {ρ : Ren} {c c' : Array Value} {t : TypeId} {k : Nat → Sem α} {k' : Nat → Sem β} : AVRel F ρ c c' → (∀ r r', ρ r = none → SRel S R F Q (ρ.add r r') (k r) (k' r')) → SRel S R F Q ρ (.new (.cells c t) k) (.new (.cells c' t) k')
 | number {ρ : Ren} {a a' : Addr} {l : Bool} {k : Nat → Sem α} {k' : Nat → Sem β} : ARel ρ a a' → (∀ r r', ρ r = none → SRel S R F Q (ρ.add r r') (k r) (k' r')) → SRel S R F Q ρ (.new (.number a l) k) (.new (.number a' l) k')
 | shape {ρ : Ren} {r : Nat} {e : Ent} {k : Option (TypeId × Nat) → Sem α} {k' : Option (TypeId × Nat) → Sem β} : ρ r = some e →
     (∀ x x', (e.own = true → x = x' ∧ e.sh = 0) → (e.own = false → x.1 = noType) → SRel S R F Q ρ (k (some x)) (k' (some x'))) → SRel S R F Q ρ (k none) (k' none) → SRel S R F Q ρ (.shape r k) (.shape e.blk k')
 | getObj {ρ : Ren} {r : Nat} {e : Ent} {k : Obj → Sem α} {k' : Obj → Sem β} : ρ r = some e → (∀ a a' l, ARel ρ a a' → SRel S R F Q ρ (k (.number a l)) (k' (.number a' l))) → SRel S R F Q ρ (.getObj r k) (.getObj e.blk k')
 | choose {ρ : Ren} (q : Question) {k : Nat → Sem α} {k' : Nat → Sem β} : OrdOk R q → (∀ n, SRel S R F Q ρ (k n) (k' n)) → SRel S R F Q ρ (.choose q k) (.choose q k')
 | program {ρ : Ren} {k : Program → Sem α} {k' : Program → Sem β} : SRel S R F Q ρ (k S) (k' R) → SRel S R F Q ρ (.program k) (.program k')
 | mark {ρ : Ren} {m : Mark} {k : Sem α} {k' : Sem β} : safeMark m → SRel S R F Q ρ k k' → SRel S R F Q ρ (.mark m k) (.mark m k')
 | halt {ρ : Ren} {h : Halt} {x' : Sem β} : okHalt h → SRel S R F Q ρ (.halt h) x'
 | doom {ρ : Ren} {x : Sem α} {x' : Sem β} : (∀ s, ∃ h s', x.run S s = .halt h s' ∧ okHalt h) → SRel S R F Q ρ x x'
theorem SRel.bind {S R : Program} {F : FuncId → Prop} {α β γ δ : Type} {Q : Ren → α → β → Prop} {Q' : Ren → γ → δ → Prop} {ρ : Ren} {x : Sem α} {x' : Sem β} {f : α → Sem γ} {f' : β → Sem δ}
   (h : SRel S R F Q ρ x x') : (∀ σ, ρ.le σ → ∀ a a', Q σ a a' → SRel S R F Q' σ (f a) (f' a')) → SRel S R F Q' ρ (x >>= f) (x' >>= f') := by
 show _ → SRel S R F Q' ρ (x.bind f) (x'.bind f')
 induction h with
 | pure q => exact fun hk => hk _ (Ren.le_refl _) _ _ q
 | load ha _ ih => exact fun hk => .load ha fun v v' hv => ih v v' hv hk
 | store ha hv _ ih => exact fun hk => .store ha hv (ih hk)
 | new hc _ ih => exact fun hk => .new hc fun r r' hr => ih r r' hr fun σ hσ => hk σ (Ren.le_trans (Ren.le_add hr r') hσ)
 | number ha _ ih => exact fun hk => .number ha fun r r' hr => ih r r' hr fun σ hσ => hk σ (Ren.le_trans (Ren.le_add hr r') hσ)
 | shape hr _ _ ih ih0 => exact fun hk => .shape hr (fun x x' h1 h2 => ih x x' h1 h2 hk) (ih0 hk)
 | getObj hr _ ih => exact fun hk => .getObj hr fun a a' l ha => ih a a' l ha hk
 | choose q hq _ ih => exact fun hk => .choose q hq fun n => ih n hk
 | program _ ih => exact fun hk => .program (ih hk)
 | mark hm _ ih => exact fun hk => .mark hm (ih hk)
 | halt hh => exact fun _ => .halt hh
 | doom hd =>
   intro _
   refine .doom fun s => ?_
   obtain ⟨h, s', hs, hh⟩ := hd s
   refine ⟨h, s', ?_, hh⟩
   show (Sem.bind _ f).run S s = _
   rw [Sem.run_bind', hs]; rfl
def EvOk (ρ : Ren) (e : Event) : Prop :=
 (∃ m, safeMark m ∧ e = ⟨.mark m, false, true⟩) ∨ (∃ b x off wr, ρ b = some x ∧ e = ⟨.cell ⟨x.blk, off, none⟩, wr, false⟩ ∧ (wr = true → x.own = true)) ∨ ∃ b x, ρ b = some x ∧ e = ⟨.obj x.blk, false, false⟩ ∧ x.own = true
theorem EvOk.mono {ρ σ : Ren} (h : ρ.le σ) {e : Event} (x : EvOk ρ e) : EvOk σ e := by
 rcases x with x | ⟨b, y, off, wr, h1, h2, h3⟩ | ⟨b, y, h1, h2⟩
 · exact .inl x
 · exact .inr (.inl ⟨b, y, off, wr, h _ _ h1, h2, h3⟩)
 · exact .inr (.inr ⟨b, y, h _ _ h1, h2⟩)
structure Moved (ρ σ : Ren) (s s' w w' : World) : Prop where
 le : ρ.le σ
 new : ∀ b e, σ b = some e → ρ b = some e ∨ (s.heap.size ≤ b ∧ w.heap.size ≤ e.blk ∧ e.own = true)
 sizeS : s.heap.size ≤ s'.heap.size
 sizeW : w.heap.size ≤ w'.heap.size
 keepS : ∀ b, b < s.heap.size → (∀ e, ρ b = some e → e.own = false) → s'.heap[b]? = s.heap[b]?
 keepW : ∀ b, b < w.heap.size → (∀ b0 e, ρ b0 = some e → e.own = true → e.blk ≠ b) → w'.heap[b]? = w.heap[b]?
 outS : s'.os = s.os ∧ s'.output = s.output ∧ s'.tape = s.tape
 outW : w'.os = w.os ∧ w'.output = w.output ∧ w'.tape = w.tape
theorem Moved.same {ρ : Ren} {s s' w w' : World} (hs : s'.heap = s.heap) (hw : w'.heap = w.heap) (os : s'.os = s.os ∧ s'.output = s.output ∧ s'.tape = s.tape) (ow : w'.os = w.os ∧ w'.output = w.output ∧ w'.tape = w.tape) : Moved ρ ρ s s' w w' :=
 ⟨Ren.le_refl _, fun _ _ h => .inl h, by rw [hs]; exact Nat.le_refl _, by rw [hw]; exact Nat.le_refl _, fun b _ _ => by rw [hs], fun b _ _ => by rw [hw], os, ow⟩
theorem Moved.refl (ρ : Ren) (s w : World) : Moved ρ ρ s s w w := .same rfl rfl ⟨rfl, rfl, rfl⟩ ⟨rfl, rfl, rfl⟩
theorem Moved.trans {ρ σ τ : Ren} {s s1 s2 w w1 w2 : World} (h : Moved ρ σ s s1 w w1) (h' : Moved σ τ s1 s2 w1 w2) : Moved ρ τ s s2 w w2 := by
 refine ⟨Ren.le_trans h.le h'.le, fun b e hb => ?_, Nat.le_trans h.sizeS h'.sizeS, Nat.le_trans h.sizeW h'.sizeW, fun b hb hn => ?_, fun b hb hn => ?_, ?_, ?_⟩
 · rcases h'.new b e hb with h1 | ⟨h1, h2, h3⟩
   · exact h.new b e h1
   · exact .inr ⟨Nat.le_trans h.sizeS h1, Nat.le_trans h.sizeW h2, h3⟩
 · rw [h'.keepS b (Nat.lt_of_lt_of_le hb h.sizeS) fun e he => ?_, h.keepS b hb hn]
   rcases h.new b e he with h1 | ⟨h1, _⟩
   · exact hn e h1
   · omega
 · rw [h'.keepW b (Nat.lt_of_lt_of_le hb h.sizeW) fun b0 e he ho => ?_, h.keepW b hb hn]
   rcases h.new b0 e he with h1 | ⟨_, h1, _⟩
   · exact hn b0 e h1 ho
   · omega
 · exact ⟨h'.outS.1.trans h.outS.1, h'.outS.2.1.trans h.outS.2.1, h'.outS.2.2.trans h.outS.2.2⟩
 · exact ⟨h'.outW.1.trans h.outW.1, h'.outW.2.1.trans h.outW.2.1, h'.outW.2.2.trans h.outW.2.2⟩
section
variable {F : FuncId → Prop} {ρ : Ren} {s w s' w' : World}
theorem BRel.of_heap {b : Nat} {e : Ent} (h : BRel F ρ s w b e) (h1 : s'.heap[b]? = s.heap[b]?) (h2 : w'.heap[e.blk]? = w.heap[e.blk]?) : BRel F ρ s' w' b e := by
 unfold BRel at h ⊢
 rw [h1, h2]; exact h
theorem WRel.of_heap (h : WRel F ρ s w) (h1 : s'.heap = s.heap) (h2 : w'.heap = w.heap) : WRel F ρ s' w' :=
 ⟨fun b e hb => (h.blk b e hb).of_heap (by rw [h1]) (by rw [h2]), h.inj⟩
theorem WRel.ltS (h : WRel F ρ s w) {b : Nat} {e : Ent} (hb : ρ b = some e) : b < s.heap.size := by
 rcases h.blk b e hb with ⟨c, t, fr, _, _, _, h1, _⟩ | ⟨_, _, _, _, _, h1, _⟩ <;> exact (Array.getElem?_eq_some_iff.1 h1).1
theorem WRel.ltW (h : WRel F ρ s w) {b : Nat} {e : Ent} (hb : ρ b = some e) : e.blk < w.heap.size := by
 rcases h.blk b e hb with ⟨c, t, fr, _, _, _, _, h1, _⟩ | ⟨_, _, _, _, _, _, h1, _⟩ <;> exact (Array.getElem?_eq_some_iff.1 h1).1
theorem WRel.fresh (h : WRel F ρ s w) : ρ s.heap.size = none := by
 cases hb : ρ s.heap.size with
 | none => rfl
 | some e => exact absurd (h.ltS hb) (Nat.lt_irrefl _)
theorem WRel.push (h : WRel F ρ s w) {o o' : Obj} (ho : BRel F (ρ.add s.heap.size w.heap.size) { s with heap := s.heap.push o } { w with heap := w.heap.push o' } s.heap.size ⟨w.heap.size, 0, true⟩) :
   WRel F (ρ.add s.heap.size w.heap.size) { s with heap := s.heap.push o } { w with heap := w.heap.push o' } ∧
   Moved ρ (ρ.add s.heap.size w.heap.size) s { s with heap := s.heap.push o } w { w with heap := w.heap.push o' } := by
 have hle := Ren.le_add h.fresh w.heap.size
 refine ⟨⟨fun b e hb => ?_, fun b1 b2 e1 e2 h1 h2 he ho => ?_⟩, hle, fun b e hb => ?_, by simp, by simp, fun b hb _ => ?_, fun b hb _ => ?_, ⟨rfl, rfl, rfl⟩, rfl, rfl, rfl⟩
 · have hb0 := hb
   unfold Ren.add at hb
   split at hb
   · rename_i hbs; subst hbs; cases hb; exact ho
   · have l1 := h.ltS hb
     have l2 := h.ltW hb
     have g1 : (s.heap.push o)[b]? = s.heap[b]? := by rw [Array.getElem?_push, if_neg (by omega)]
     have g2 : (w.heap.push o')[e.blk]? = w.heap[e.blk]? := by rw [Array.getElem?_push, if_neg (by omega)]
     rcases h.blk b e hb with ⟨c0, t0, fr, c1, t1, fr', h1, h2, h3, h4, h5⟩ | ⟨h1, h2, a, a', l, h3, h4, h5⟩
     · refine .inl ⟨c0, t0, fr, c1, t1, fr', g1.trans h1, g2.trans h2, fun i v hi => ?_, h4, h5⟩
       obtain ⟨v', hv', hr⟩ := h3 i v hi
       exact ⟨v', hv', hr.mono hle⟩
     · exact .inr ⟨h1, h2, a, a', l, g1.trans h3, g2.trans h4, h5.mono hle⟩
 · unfold Ren.add at h1 h2
   split at h1 <;> split at h2
   · omega
   · cases h1
     have := h.ltW h2
     simp only at he; omega
   · cases h2
     have := h.ltW h1
     simp only at he; omega
   · exact h.inj b1 b2 e1 e2 h1 h2 he ho
 · unfold Ren.add at hb
   split at hb
   · rename_i hbs; subst hbs; cases hb
     exact .inr ⟨Nat.le_refl _, Nat.le_refl _, rfl⟩
   · exact .inl hb
 · simp only [Array.getElem?_push]; rw [if_neg (by omega)]
 · simp only [Array.getElem?_push]; rw [if_neg (by omega)]
theorem WRel.pushCells (h : WRel F ρ s w) {c c' : Array Value} (t : TypeId) (hc : AVRel F ρ c c') :
   BRel F (ρ.add s.heap.size w.heap.size) { s with heap := s.heap.push (.cells c t) } { w with heap := w.heap.push (.cells c' t) } s.heap.size ⟨w.heap.size, 0, true⟩ := by
 have hle := Ren.le_add h.fresh w.heap.size
 refine .inl ⟨c, t, (0, 0), c', t, (0, 0), by simp, by simp, fun i v hi => ?_, fun _ => ⟨rfl, rfl, rfl, hc.1.symm, rfl⟩, fun hf => by cases hf⟩
 have hi' : i < c.size := by
   rcases Nat.lt_or_ge i c.size with h' | h'
   · exact h'
   · rw [Array.getElem?_eq_none h'] at hi; cases hi
 have hi2 : i < c'.size := hc.1 ▸ hi'
 exact ⟨c'[i], by simp [hi2], (hc.2 i _ _ hi (Array.getElem?_eq_getElem hi2)).mono hle⟩
theorem WRel.load (h : WRel F ρ s w) {a a' : Addr} (ha : ARel ρ a a') :
   (∃ v v', s.cell? a = some v ∧ w.cell? a' = some v' ∧ VRel F ρ v v') ∨ (s.cell? a = none ∧ ∀ what, s.noCell a what = .stuck what) := by
 obtain ⟨e, he, hs, rfl⟩ := ha
 rcases h.blk _ _ he with ⟨c, t, fr, c', t', fr', h1, h2, h3, _, _⟩ | ⟨_, _, _, _, _, h1, _⟩
 · cases hv : c[a.off]? with
   | some v =>
     obtain ⟨v', hv', hr⟩ := h3 _ _ hv
     exact .inl ⟨v, v', by simp [World.cell?, h1, hs, hv], by simp [World.cell?, h2, hv'], hr⟩
   | none => exact .inr ⟨by simp [World.cell?, h1, hs, hv], fun what => by simp [World.noCell, h1]⟩
 · exact .inr ⟨by simp [World.cell?, h1], fun what => by simp [World.noCell, h1]⟩
theorem WRel.store (h : WRel F ρ s w) {a a' : Addr} (ha : ARel ρ a a') {v v' u : Value} (hv : VRel F ρ v v') (hc : s.cell? a = some u) (hf : s.frozen? a = false) :
   (∃ e, ρ a.block = some e ∧ e.own = true ∧ a' = ⟨e.blk, a.off, none⟩) ∧ (∃ u', w.cell? a' = some u') ∧ w.frozen? a' = false ∧ WRel F ρ (s.setCell a v) (w.setCell a' v') ∧ Moved ρ ρ s (s.setCell a v) w (w.setCell a' v') := by
 obtain ⟨e, he, hs, rfl⟩ := ha
 obtain ⟨c, t, fr, c', t', fr', h1, h2, h3, h4, h5⟩ | ⟨_, _, _, _, _, hx, _⟩ := h.blk _ _ he
 rotate_left
 · simp [World.cell?, hx] at hc
 have hu : c[a.off]? = some u := by simpa [World.cell?, h1, hs] using hc
 have hlt : a.off < c.size := by
   rcases Nat.lt_or_ge a.off c.size with h' | h'
   · exact h'
   · rw [Array.getElem?_eq_none h'] at hu; cases hu
 have ho : e.own = true := by
   cases hx : e.own with
   | true => rfl
   | false =>
     have := (h5 hx).1
     subst this
     simp [World.frozen?, h1, hlt] at hf
 obtain ⟨e1, rfl, rfl, e4, rfl⟩ := h4 ho
 simp only [e1, Nat.add_zero] at h3 ⊢
 have hlt' : a.off < c'.size := by omega
 have hS : (s.setCell a v).heap = s.heap.modify a.block fun | .cells c elem frozen => .cells (if a.spot.isSome then c else c.setIfInBounds a.off v) elem frozen | o => o := rfl
 have hW : (w.setCell ⟨e.blk, a.off, none⟩ v').heap = w.heap.modify e.blk fun | .cells c elem frozen => .cells (if (none : Option Nat).isSome then c else c.setIfInBounds a.off v') elem frozen | o => o := rfl
 refine ⟨⟨e, he, ho, rfl⟩, ⟨c'[a.off], by simp [World.cell?, h2, hlt']⟩, by simp [World.frozen?, h2], ⟨fun b e2 hb => ?_, h.inj⟩, Ren.le_refl _, fun _ _ hb => .inl hb, by rw [hS]; simp, by rw [hW]; simp, fun b hb hn => ?_, fun b hb hn => ?_, ⟨rfl, rfl, rfl⟩, rfl, rfl, rfl⟩
 · by_cases hba : b = a.block
   · subst hba
     rw [he] at hb; cases hb
     refine .inl ⟨c.setIfInBounds a.off v, t, (0, 0), c'.setIfInBounds a.off v', t, (0, 0), ?_, ?_, fun i x hi => ?_, fun _ => ⟨e1, rfl, rfl, by simp [e4], rfl⟩, fun hx => by rw [ho] at hx; cases hx⟩
     · rw [hS, Array.getElem?_modify]; simp [h1, hs]
     · rw [hW, Array.getElem?_modify]; simp [h2]
     · rw [e1, Nat.add_zero]
       rw [Array.getElem?_setIfInBounds] at hi ⊢
       split at hi
       · rename_i hio
         subst hio
         cases hi
         exact ⟨v', by simp [hlt'], hv⟩
       · rename_i hio
         rw [if_neg hio]
         exact h3 i x hi
   · refine (h.blk b e2 hb).of_heap ?_ ?_
     · rw [hS, Array.getElem?_modify, if_neg (Ne.symm hba)]
     · rw [hW, Array.getElem?_modify]
       split
       · rename_i hx
         exact absurd (h.inj _ _ _ _ he hb hx ho) (Ne.symm hba)
       · rfl
 · rw [hS, Array.getElem?_modify]
   split
   · rename_i hx; subst hx
     have := hn e he
     rw [ho] at this; cases this
   · rfl
 · rw [hW, Array.getElem?_modify]
   split
   · rename_i hx; subst hx
     exact absurd rfl (hn _ e he ho)
   · rfl
end
def Single : Value → Prop
 | .agg _ | .tuple _ => False
 | _ => True
theorem run_store_single {α : Type} (p : Program) {v : Value} (hv : Single v) (m : Mode) (a : Addr) (k : Sem α) (w : World) :
   (Sem.store m a v k).run p w = match w.cell? a with
     | some _ => if w.frozen? a then .halt (.unsupported (.unsafePointer "a write to bytes that a string shares")) w else k.run p (w.setCell a v)
     | none => match w.farStore p a v (m == .atomic) with
       | .ok (w, _) => k.run p w
       | .error h => .halt h w := by
 cases v <;> first | exact hv.elim | rfl
theorem runT_store_single {α : Type} (p : Program) {v : Value} (hv : Single v) (m : Mode) (a : Addr) (k : Sem α) (w : World) (es : Array Event) :
   (Sem.store m a v k).runT p w es = match w.cell? a with
     | some _ =>
       if w.frozen? a then (.halt (.unsupported (.unsafePointer "a write to bytes that a string shares")) w, es)
       else k.runT p (w.setCell a v) (es.push ⟨.cell a, true, m == .atomic⟩)
     | none => match w.farStore p a v (m == .atomic) with
       | .ok (w, touched) => k.runT p w (es ++ touched.toArray.map (⟨.cell ·, true, m == .atomic⟩))
       | .error h => (.halt h w, es) := by
 cases v <;> first | exact hv.elim | rfl
theorem VRel.single {F : FuncId → Prop} {ρ : Ren} {v v' : Value} (h : VRel F ρ v v') (hs : Single v) : Single v' := by
 cases h <;> first | exact hs.elim | exact trivial
theorem noView_of {s : World} {a : Addr} {p : Program} {m : Bool} (hn : ∀ what, s.noCell a what = .stuck what) : s.farLoad p a m = .error (.stuck "load: no such cell") := by
 unfold World.farLoad
 cases hb : s.heap[a.block]? with
 | none => simp [hn]
 | some o =>
   cases o <;> simp [hn]
   have := hn ""
   simp [World.noCell, hb] at this
theorem noViewS_of {s : World} {a : Addr} {p : Program} {m : Bool} {v : Value} (hn : ∀ what, s.noCell a what = .stuck what) : s.farStore p a v m = .error (.stuck "store: no such cell") := by
 unfold World.farStore
 cases hb : s.heap[a.block]? with
 | none => simp [hn]
 | some o =>
   cases o <;> simp [hn]
   have := hn ""
   simp [World.noCell, hb] at this
def Runs (S R : Program) (F : FuncId → Prop) {α β : Type} (Q : Ren → α → β → Prop) (ρ : Ren) (x : Sem α) (x' : Sem β) (s w : World) (es : Array Event) (K : Nat) : Prop :=
 (∃ hl s', x.run S s = .halt hl s' ∧ okHalt hl) ∨
 ∃ a s', x.run S s = .ok a s' ∧ s.drawn ≤ s'.drawn ∧ s'.tape = s.tape ∧ (s'.drawn ≤ s.drawn + K →
   ∃ a' w' σ u, x'.runT R w es = (.ok a' w', es ++ u) ∧ w'.drawn = w.drawn + (s'.drawn - s.drawn) ∧ Moved ρ σ s s' w w' ∧ WRel F σ s' w' ∧ Q σ a a' ∧ ∀ e ∈ u, EvOk σ e)
theorem Runs.of_move {S R : Program} {F : FuncId → Prop} {α β : Type} {Q : Ren → α → β → Prop} {ρ σ : Ren} {x y : Sem α} {x' y' : Sem β} {s s1 w w1 : World} {es : Array Event} {K : Nat} (v : Array Event)
   (hs : x.run S s = y.run S s1) (hw : x'.runT R w es = y'.runT R w1 (es ++ v)) (hm : Moved ρ σ s s1 w w1) (ds : s1.drawn = s.drawn) (dw : w1.drawn = w.drawn) (hv : ∀ e ∈ v, EvOk σ e) (h : Runs S R F Q σ y y' s1 w1 (es ++ v) K) : Runs S R F Q ρ x x' s w es K := by
 rcases h with ⟨hl, s', r1, r2⟩ | ⟨a, s', r1, r2, r2', r3⟩
 · exact .inl ⟨hl, s', hs.trans r1, r2⟩
 · refine .inr ⟨a, s', hs.trans r1, by omega, r2'.trans hm.outS.2.2, fun hK => ?_⟩
   obtain ⟨a', w', τ, u, q1, q2, q3, q4, q5, q6⟩ := r3 (by omega)
   refine ⟨a', w', τ, v ++ u, by rw [hw, q1, Array.append_assoc], by omega, hm.trans q3, q4, q5, fun e he => ?_⟩
   rcases Array.mem_append.1 he with he | he
   · exact (hv e he).mono q3.le
   · exact q6 e he
theorem SRel.run {S R : Program} {F : FuncId → Prop} {α β : Type} {Q : Ren → α → β → Prop} {ρ : Ren} {x : Sem α} {x' : Sem β} (h : SRel S R F Q ρ x x') :
   ∀ (s w : World) (es : Array Event) (K : Nat), WRel F ρ s w → Agree K s w → Runs S R F Q ρ x x' s w es K := by
 induction h with
 | @pure ρ a b q => exact fun s w es K hw _ => .inr ⟨a, s, rfl, Nat.le_refl _, rfl, fun _ => ⟨b, w, ρ, #[], by simp [Sem.runT, -Sem.runT_eq], by omega, .refl _ _ _, hw, q, by simp⟩⟩
 | @load ρ a a' k k' ha _ ih =>
   intro s w es K hw hA
   rcases hw.load ha with ⟨v, v', h1, h2, h3⟩ | ⟨h1, h2⟩
   · refine Runs.of_move #[⟨.cell a', false, false⟩] (by simp only [Sem.run, h1]) ?_ (.refl ρ s w) rfl rfl ?_ (ih v v' h3 s w _ K hw hA)
     · simp only [Sem.runT, h2]
       rw [show (Mode.plain == Mode.atomic) = false from rfl, Array.push_eq_append]
     · intro e he
       simp at he; subst he
       obtain ⟨x, hx, _, rfl⟩ := ha
       exact .inr (.inl ⟨_, x, _, false, hx, rfl, by simp⟩)
   · exact .inl ⟨.stuck "load: no such cell", s, by simp only [Sem.run, h1]; rw [noView_of h2], trivial⟩
 | @store ρ a a' v v' k k' ha hv _ ih =>
   intro s w es K hw hA
   by_cases hs : Single v
   · rcases hw.load ha with ⟨u0, u0', h1, h2, h3⟩ | ⟨h1, h2⟩
     · cases hf : s.frozen? a with
       | true => exact .inl ⟨.unsupported (.unsafePointer "a write to bytes that a string shares"), s, by rw [run_store_single _ hs, h1]; simp [hf], trivial⟩
       | false =>
         obtain ⟨⟨e, e1, e2, rfl⟩, ⟨u', hu'⟩, hf', hw', hm⟩ := hw.store ha hv h1 hf
         refine Runs.of_move #[⟨.cell ⟨e.blk, a.off, none⟩, true, false⟩] (by rw [run_store_single _ hs, h1]; simp [hf]) ?_ hm rfl rfl ?_ (ih _ _ _ K hw' hA)
         · rw [runT_store_single _ (hv.single hs), hu']
           simp only [hf', Bool.false_eq_true, if_false]
           rw [show (Mode.plain == Mode.atomic) = false from rfl, Array.push_eq_append]
         · intro x hx
           simp at hx; subst hx
           exact .inr (.inl ⟨_, e, _, true, e1, rfl, fun _ => e2⟩)
     · exact .inl ⟨.stuck "store: no such cell", s, by rw [run_store_single _ hs, h1]; simp only; rw [noViewS_of h2], trivial⟩
   · refine .inl ⟨.stuck "store: not the value of one cell", s, ?_, trivial⟩
     cases v <;> first | exact absurd trivial hs | rfl
 | @new ρ c c' t k k' hc _ ih =>
   intro s w es K hw hA
   obtain ⟨hw', hm⟩ := hw.push (hw.pushCells t hc)
   exact Runs.of_move (y := k s.heap.size) (y' := k' w.heap.size) #[] rfl (by simp only [Sem.runT, Array.append_empty]) hm rfl rfl (by simp) (ih s.heap.size w.heap.size hw.fresh _ _ _ K hw' hA)
 | @number ρ a a' l k k' ha _ ih =>
   intro s w es K hw hA
   obtain ⟨hw', hm⟩ := hw.push (o := .number a l) (o' := .number a' l) (.inr ⟨rfl, rfl, a, a', l, by simp, by simp, ha.mono (Ren.le_add hw.fresh w.heap.size)⟩)
   exact Runs.of_move (y := k s.heap.size) (y' := k' w.heap.size) #[] rfl (by simp only [Sem.runT, Array.append_empty]) hm rfl rfl (by simp) (ih s.heap.size w.heap.size hw.fresh _ _ _ K hw' hA)
 | @shape ρ r e k k' hr _ _ ih ih0 =>
   intro s w es K hw hA
   rcases hw.blk _ _ hr with ⟨c, t, fr, c', t', fr', h1, h2, _, h4, h5⟩ | ⟨_, _, _, _, _, h1, h2, _⟩
   · have e1 : s.shape? r = some (t, c.size) := by simp [World.shape?, h1]
     have e2 : w.shape? e.blk = some (t', c'.size) := by simp [World.shape?, h2]
     exact Runs.of_move #[] (by simp only [Sem.run, e1]) (by simp only [Sem.runT, e2, Array.append_empty]) (.refl ρ s w) rfl rfl (by simp)
       (ih (t, c.size) (t', c'.size) (fun ho => let ⟨a1, _, _, a2, a3⟩ := h4 ho; ⟨by rw [a2, a3], a1⟩) (fun ho => (h5 ho).2) s w _ K hw hA)
   · have e1 : s.shape? r = none := by simp [World.shape?, h1]
     have e2 : w.shape? e.blk = none := by simp [World.shape?, h2]
     exact Runs.of_move #[] (by simp only [Sem.run, e1]) (by simp only [Sem.runT, e2, Array.append_empty]) (.refl ρ s w) rfl rfl (by simp) (ih0 s w _ K hw hA)
 | @getObj ρ r e k k' hr _ ih =>
   intro s w es K hw hA
   rcases hw.blk _ _ hr with ⟨c, t, fr, c', t', fr', h1, _⟩ | ⟨ho, _, a, a', l, h1, h2, h3⟩
   · exact .inl ⟨.stuck "getObj: a row of cells", s, by simp only [Sem.run, h1], trivial⟩
   · refine Runs.of_move #[⟨.obj e.blk, false, false⟩] (by simp only [Sem.run, h1]) (by simp only [Sem.runT, h2, Obj.isChan]; rw [Array.push_eq_append]) (.refl ρ s w) rfl rfl ?_ (ih a a' l h3 s w _ K hw hA)
     intro x hx
     simp at hx; subst hx
     exact .inr (.inr ⟨_, e, hr, rfl, ho⟩)
 | @choose ρ q k k' _ _ ih =>
   intro s w es K hw hA
   by_cases hq : q.forced = true
   · exact Runs.of_move #[] (by simp only [Sem.run, hq, if_true]) (by simp only [Sem.runT, hq, if_true, Array.append_empty]) (.refl ρ s w) rfl rfl (by simp) (ih 0 s w _ K hw hA)
   · have hw' : WRel F ρ { s with drawn := s.drawn + 1 } { w with drawn := w.drawn + 1 } := hw.of_heap rfl rfl
     have hm : Moved ρ ρ s { s with drawn := s.drawn + 1 } w { w with drawn := w.drawn + 1 } := .same rfl rfl ⟨rfl, rfl, rfl⟩ ⟨rfl, rfl, rfl⟩
     have hA' : Agree (K - 1) { s with drawn := s.drawn + 1 } { w with drawn := w.drawn + 1 } := fun i q hi => by
       have := hA (i + 1) q (by omega)
       simpa [Nat.add_assoc, Nat.add_comm 1 i] using this
     rcases ih (q.cut (s.tape s.drawn q)) _ _ es (K - 1) hw' hA' with ⟨hl, s', r1, r2⟩ | ⟨a, s', r1, r2, r2', r3⟩
     · exact .inl ⟨hl, s', by simp only [Sem.run, hq]; exact r1, r2⟩
     · simp only at r2 r2' r3
       refine .inr ⟨a, s', by simp only [Sem.run, hq]; exact r1, by omega, r2', fun hK => ?_⟩
       have e : s.tape s.drawn q = w.tape w.drawn q := by have := hA 0 q (by omega); simpa using this
       obtain ⟨a', w', σ, u, q1, q2, q3, q4, q5, q6⟩ := r3 (by omega)
       exact ⟨a', w', σ, u, by simp only [Sem.runT, hq]; rw [e] at q1; exact q1, by omega, hm.trans q3, q4, q5, q6⟩
 | program _ ih => exact fun s w es K hw hA => ih s w es K hw hA
 | @mark ρ m k k' hm _ ih =>
   intro s w es K hw hA
   refine Runs.of_move #[⟨.mark m, false, true⟩] rfl (by simp only [Sem.runT]; rw [Array.push_eq_append]) (.refl ρ s w) rfl rfl ?_ (ih s w _ K hw hA)
   intro e he
   simp at he; subst he; exact .inl ⟨m, hm, rfl⟩
 | @halt ρ h x' hh => exact fun s w es K _ _ => .inl ⟨h, s, rfl, hh⟩
 | doom hd => exact fun s w es K _ _ => .inl (let ⟨h, s', h1, h2⟩ := hd s; ⟨h, s', h1, h2⟩)
theorem SRel.runAll {S R : Program} {F : FuncId → Prop} {α β : Type} {Q : Ren → α → β → Prop} {ρ : Ren} {x : Sem α} {x' : Sem β} (h : SRel S R F Q ρ x x') (s w : World) (es : Array Event) (hw : WRel F ρ s w) (hA : ∀ K, Agree K s w) :
   (∃ hl s', x.run S s = .halt hl s' ∧ okHalt hl) ∨ ∃ a s' a' w' σ u, x.run S s = .ok a s' ∧ s.drawn ≤ s'.drawn ∧ s'.tape = s.tape ∧ x'.runT R w es = (.ok a' w', es ++ u) ∧ w'.drawn = w.drawn + (s'.drawn - s.drawn) ∧ Moved ρ σ s s' w w' ∧ WRel F σ s' w' ∧ Q σ a a' ∧ ∀ e ∈ u, EvOk σ e := by
 rcases h.run s w es 0 hw (hA 0) with h0 | ⟨a, s', r1, r2, r3, _⟩
 · exact .inl h0
 · rcases h.run s w es s'.drawn hw (hA _) with ⟨hl, s1, q1, _⟩ | ⟨a1, s1, q1, _, _, q4⟩
   · rw [r1] at q1; cases q1
   · rw [r1] at q1; cases q1
     obtain ⟨a', w', σ, u, z⟩ := q4 (by omega)
     exact .inr ⟨a, s', a', w', σ, u, r1, r2, r3, z⟩
theorem Agree.same {s w : World} (ht : s.tape = w.tape) (hd : s.drawn = w.drawn) (K : Nat) : Agree K s w := fun i q _ => by rw [ht, hd]
end Sim
end Go.Proofs.YthgelfnflafoiabGreat
namespace Go.Proofs.YthgelfnflafoiabGreat
namespace Sim
def flat1 : Value → Bool
 | .bool _ | .int _ _ | .string _ | .pointer none | .slice none _ _ | .nilFunc | .nilIface => true
 | _ => false
def plainB : Value → Bool
 | .agg cs => cs.all flat1
 | v => flat1 v
def spOk (S : Program) (f : FuncId) : Bool := match S.funcs[f]? with
 | some fn => fn.litNo == some 999983
 | none => false
structure Same (S R : Program) (F : FuncId → Bool) : Prop where
 info : ∀ t, S.info? t = R.info? t
 glob : S.globals.size = 0
 noT : S.info? noType = none
 cab : ∀ e n off k, cellAtBytes S S.depth e n off k = cellAtBytes R R.depth e n off k
 cabNo : ∀ n off k, cellAtBytes S S.depth noType n off k = none
 cellsOf : ∀ e, S.cellsOf e = R.cellsOf e
 bytesOf : ∀ e, S.bytesOf e = R.bytesOf e
 boc : ∀ e o, byteOfCell S S.depth e o = byteOfCell R R.depth e o
 eqg : ∀ t, S.eqGuardType S.depth t = R.eqGuardType R.depth t
 held : ∀ t, S.stoodInHeld t = R.stoodInHeld t
 follows : ∀ d, S.follows d = R.follows d
 body : ∀ f, (F f = true ∨ spOk S f = true) → ∃ fn fn', S.funcs[f]? = some fn ∧ R.funcs[f]? = some fn' ∧ fn.body.isSome = true ∧ fn'.body.isSome = true ∧ fn.name ≠ "runtime.NumGoroutine" ∧ fn'.name ≠ "runtime.NumGoroutine"
theorem Same.under {S R : Program} {F : FuncId → Bool} (H : Same S R F) (t : TypeId) : S.underlying t = R.underlying t := by
 unfold Program.underlying
 rw [← H.info t]
 cases S.info? t with
 | none => rfl
 | some i => cases i.desc <;> simp [H.info]
abbrev Fp (F : FuncId → Bool) : FuncId → Prop := fun f => F f = true
section
variable {S R : Program} {F : FuncId → Bool} {ρ : Ren}
theorem flat1_rel {v : Value} (h : flat1 v = true) : VRel (Fp F) ρ v v := by
 cases v <;> simp [flat1] at h
 case bool b => exact .bool b
 case int k n => exact .int k n
 case string s => exact .string s
 case pointer a => cases a <;> simp at h; exact .nilPtr
 case slice a l c => cases a <;> simp at h; exact .nilSlice l c
 case nilFunc => exact .nilFunc
 case nilIface => exact .nilIface
theorem AVRel.of_flat {x : Array Value} (h : x.all flat1 = true) : AVRel (Fp F) ρ x x := by
 refine ⟨rfl, fun i v v' hv hv' => ?_⟩
 rw [hv] at hv'; cases hv'
 exact flat1_rel (Array.all_eq_true_iff_forall_mem.1 h v (Array.mem_of_getElem? hv))
theorem plain_rel {v : Value} (h : plainB v = true) : VRel (Fp F) ρ v v := by
 cases v <;> first
   | exact flat1_rel h
   | (have := AVRel.of_flat (F := F) (ρ := ρ) h; exact .agg this.1 this.2)
theorem SRel.stuck {α β : Type} {Q : Ren → α → β → Prop} {why : String} {x' : Sem β} : SRel S R (Fp F) Q ρ (Go.stuck why) x' := .halt trivial
theorem SRel.unsupported {α β : Type} {Q : Ren → α → β → Prop} {u : Unsupported} {x' : Sem β} (h : okHalt (.unsupported u)) : SRel S R (Fp F) Q ρ (Go.unsupported u) x' := .halt h
theorem SRel.pure' {α β : Type} {Q : Ren → α → β → Prop} {a : α} {b : β} (h : Q ρ a b) : SRel S R (Fp F) Q ρ (Pure.pure a) (Pure.pure b) := .pure h
theorem runtimePanic_doom {α β : Type} {Q : Ren → α → β → Prop} {x' : Sem β} {e : RuntimeError} (he : match e with | .bounds .. | .error _ | .plain _ | .nilDeref => True | _ => False) : SRel S R (Fp F) Q ρ (runtimePanic e : Sem α) x' := by
 refine .doom fun s => ?_
 cases e <;> first | exact he.elim | exact ⟨_, s, rfl, trivial⟩
theorem boundsPanic_doom {α β : Type} {Q : Ren → α → β → Prop} {x' : Sem β} {k : IntKind} {x y : Int} {c : BoundsCode} : SRel S R (Fp F) Q ρ (boundsPanic k x y c : Sem α) x' := by
 refine .doom fun s => ?_
 unfold boundsPanic
 split
 · exact ⟨_, _, rfl, trivial⟩
 · exact ⟨_, _, rfl, trivial⟩
theorem program_rel {Q : Ren → Program → Program → Prop} (h : Q ρ S R) : SRel S R (Fp F) Q ρ program program := .program (.pure h)
theorem typeInfo_rel (H : Same S R F) (t : TypeId) : SRel S R (Fp F) (fun _ a b => a = b ∧ S.info? t = some a) ρ (typeInfo t) (typeInfo t) := by
 unfold typeInfo
 refine (program_rel (Q := fun _ a b => a = S ∧ b = R) ⟨rfl, rfl⟩).bind ?_
 rintro σ _ a b ⟨rfl, rfl⟩
 rw [← H.info t]
 cases h : a.info? t with
 | none => exact .stuck
 | some i => exact .pure' ⟨rfl, rfl⟩
theorem underlying_rel (H : Same S R F) (t : TypeId) : SRel S R (Fp F) (fun _ a b => a = b ∧ S.underlying t = some a) ρ (underlying t) (underlying t) := by
 unfold underlying
 refine (program_rel (Q := fun _ a b => a = S ∧ b = R) ⟨rfl, rfl⟩).bind ?_
 rintro σ _ a b ⟨rfl, rfl⟩
 rw [← H.under t]
 cases h : a.underlying t with
 | none => exact .stuck
 | some i => exact .pure' ⟨rfl, rfl⟩
theorem sizeOf_rel (H : Same S R F) (t : TypeId) : SRel S R (Fp F) (fun _ a b => a = b) ρ (sizeOf t) (sizeOf t) := by
 unfold sizeOf
 refine (typeInfo_rel H t).bind ?_
 rintro σ _ a b ⟨rfl, _⟩
 exact .pure' rfl
def zeroOk (S : Program) (t : TypeId) : Bool := match S.info? t with
 | some i => match i.zero with | some v => plainB v | none => true
 | none => true
theorem zeroValue_rel (H : Same S R F) {t : TypeId} (h : zeroOk S t = true) : SRel S R (Fp F) (fun _ a b => a = b ∧ plainB a = true) ρ (zeroValue t) (zeroValue t) := by
 unfold zeroValue
 refine (typeInfo_rel H t).bind ?_
 rintro σ _ a b ⟨rfl, hi⟩
 unfold zeroOk at h
 rw [hi] at h
 cases hz : a.zero with
 | none => exact .unsupported trivial
 | some v => simp only [hz] at h; exact .pure' ⟨rfl, h⟩
theorem isAgg_rel (H : Same S R F) (t : TypeId) : SRel S R (Fp F) (fun _ a b => a = b) ρ (isAgg t) (isAgg t) := by
 unfold isAgg
 refine (underlying_rel H t).bind ?_
 rintro σ _ a b ⟨rfl, _⟩
 cases a <;> exact .pure' rfl
theorem load_rel {a a' : Addr} (h : ARel ρ a a') : SRel S R (Fp F) (fun σ v v' => VRel (Fp F) σ v v') ρ (load a) (load a') := .load h fun _ _ hv => .pure hv
theorem store_rel {a a' : Addr} {v v' : Value} (h : ARel ρ a a') (hv : VRel (Fp F) ρ v v') : SRel S R (Fp F) (fun _ _ _ => True) ρ (store a v) (store a' v') := .store h hv (.pure trivial)
theorem loadCellsFrom_rel : ∀ (n : Nat) {ρ : Ren} {a a' : Addr} (i : Nat) {acc acc' : Array Value}, ARel ρ a a' → AVRel (Fp F) ρ acc acc' →
   SRel S R (Fp F) (fun σ x x' => AVRel (Fp F) σ x x') ρ (loadCellsFrom a i n acc) (loadCellsFrom a' i n acc')
 | 0, _, _, _, _, _, _, _, hc => .pure' hc
 | n + 1, ρ, a, a', i, acc, acc', ha, hc => by
   unfold loadCellsFrom
   refine (load_rel (ha.add i)).bind fun σ hσ v v' hv => ?_
   exact loadCellsFrom_rel n (i + 1) (ha.mono hσ) ((hc.mono hσ).push hv)
theorem loadCells_rel {a a' : Addr} (ha : ARel ρ a a') (n : Nat) : SRel S R (Fp F) (fun σ x x' => AVRel (Fp F) σ x x') ρ (loadCells a n) (loadCells a' n) := loadCellsFrom_rel n 0 ha .empty
def LRel (F : FuncId → Prop) (ρ : Ren) (l l' : List Value) : Prop := AVRel F ρ l.toArray l'.toArray
theorem AVRel.toList {x x' : Array Value} {F : FuncId → Prop} (h : AVRel F ρ x x') : LRel F ρ x.toList x'.toList := by simpa [LRel] using h
theorem LRel.cons {F : FuncId → Prop} {v v' : Value} {l l' : List Value} (h : LRel F ρ (v :: l) (v' :: l')) : VRel F ρ v v' ∧ LRel F ρ l l' := by
 refine ⟨h.2 0 v v' (by simp) (by simp), by have := h.1; simpa using this, fun i x x' hx hx' => h.2 (i + 1) x x' (by simpa using hx) (by simpa using hx')⟩
theorem LRel.mono {F : FuncId → Prop} {σ : Ren} (h : ρ.le σ) {l l' : List Value} (x : LRel F ρ l l') : LRel F σ l l' := AVRel.mono h x
theorem storeCells_rel : ∀ (l l' : List Value) {ρ : Ren} {a a' : Addr} (i : Nat), ARel ρ a a' → LRel (Fp F) ρ l l' → SRel S R (Fp F) (fun _ _ _ => True) ρ (storeCells a l i) (storeCells a' l' i)
 | [], [], _, _, _, _, _, _ => .pure' trivial
 | [], v' :: l', _, _, _, _, _, h => by have := h.1; simp at this
 | v :: l, [], _, _, _, _, _, h => by have := h.1; simp at this
 | v :: l, v' :: l', ρ, a, a', i, ha, h => by
   unfold storeCells
   refine (store_rel (ha.add i) h.cons.1).bind fun σ hσ _ _ _ => ?_
   exact storeCells_rel l l' (i + 1) (ha.mono hσ) (h.cons.2.mono hσ)
theorem loadVar_rel (H : Same S R F) (t : TypeId) {a a' : Addr} (ha : ARel ρ a a') : SRel S R (Fp F) (fun σ v v' => VRel (Fp F) σ v v') ρ (loadVar t a) (loadVar t a') := by
 unfold loadVar
 refine (isAgg_rel H t).bind ?_
 rintro σ hσ x _ rfl
 cases x
 · simp only [Bool.false_eq_true, if_false]; exact load_rel (ha.mono hσ)
 · simp only [if_true]
   refine (sizeOf_rel H t).bind ?_
   rintro τ hτ n _ rfl
   refine (loadCells_rel ((ha.mono hσ).mono hτ) n).bind fun υ _ c c' hc => .pure' (.agg hc.1 hc.2)
theorem storeVar_rel (H : Same S R F) (t : TypeId) {a a' : Addr} {v v' : Value} (ha : ARel ρ a a') (hv : VRel (Fp F) ρ v v') : SRel S R (Fp F) (fun _ _ _ => True) ρ (storeVar t a v) (storeVar t a' v') := by
 unfold storeVar
 refine (sizeOf_rel H t).bind ?_
 rintro σ hσ n _ rfl
 rw [← (hv.cells).1]
 by_cases h : v.cells.size ≠ n
 · rw [if_pos h, if_pos h]
   exact SRel.bind (Q := fun _ _ _ => True) (.stuck) fun _ hτ _ _ _ => storeCells_rel _ _ 0 ((ha.mono hσ).mono hτ) ((hv.cells.toList.mono hσ).mono hτ)
 · rw [if_neg h, if_neg h]
   exact storeCells_rel _ _ 0 (ha.mono hσ) (hv.cells.toList.mono hσ)
theorem ARel.new {r : Nat} {ρ : Ren} (r' : Nat) : ARel (ρ.add r r') ⟨r, 0, none⟩ ⟨r', 0, none⟩ := ⟨⟨r', 0, true⟩, by simp [Ren.add], rfl, rfl⟩
theorem newRow_rel {c c' : Array Value} (t : TypeId) (hc : AVRel (Fp F) ρ c c') : SRel S R (Fp F) (fun σ a a' => ARel σ a a') ρ (newRow t c) (newRow t c') :=
 .new hc fun _ r' _ => .pure (.new r')
theorem newVar_rel {v v' : Value} (t : TypeId) (hv : VRel (Fp F) ρ v v') : SRel S R (Fp F) (fun σ a a' => ARel σ a a') ρ (newVar t v) (newVar t v') := newRow_rel t hv.cells
theorem part_rel (H : Same S R F) (t : TypeId) {c c' : Array Value} (hc : AVRel (Fp F) ρ c c') (off : Nat) : SRel S R (Fp F) (fun σ v v' => VRel (Fp F) σ v v') ρ (part t c off) (part t c' off) := by
 unfold part
 refine (isAgg_rel H t).bind ?_
 rintro σ hσ x _ rfl
 cases x
 · simp only [Bool.false_eq_true, if_false]
   cases hv : c[off]? with
   | none => exact .stuck
   | some v =>
     have hi : off < c.size := (Array.getElem?_eq_some_iff.1 hv).1
     have hi' : off < c'.size := hc.1 ▸ hi
     rw [Array.getElem?_eq_getElem hi']
     exact .pure' ((hc.2 off _ _ hv (Array.getElem?_eq_getElem hi')).mono hσ)
 · simp only [if_true]
   refine (sizeOf_rel H t).bind ?_
   rintro τ hτ n _ rfl
   have := ((hc.mono hσ).mono hτ).extract off (off + n)
   exact .pure' (.agg this.1 this.2)
theorem sureAddr_rel {v v' : Value} (h : VRel (Fp F) ρ v v') : SRel S R (Fp F) (fun σ a a' => ARel σ a a') ρ (Instr.sureAddr v) (Instr.sureAddr v') := by
 cases h with
 | ptr a => exact .pure' a
 | _ => exact .stuck
theorem asAddr_rel {v v' : Value} (h : VRel (Fp F) ρ v v') : SRel S R (Fp F) (fun σ a a' => ARel σ a a') ρ (asAddr v) (asAddr v') := by
 cases h with
 | ptr a => exact .pure' a
 | nilPtr => exact runtimePanic_doom (e := .nilDeref) trivial
 | _ => exact .stuck
theorem asIntOf_rel {v v' : Value} (h : VRel (Fp F) ρ v v') : SRel S R (Fp F) (fun _ a b => a = b) ρ (asIntOf v) (asIntOf v') := by
 cases h with
 | int k n => exact .pure' rfl
 | ptr a => exact .unsupported trivial
 | _ => exact .stuck
theorem asInt_rel {v v' : Value} (h : VRel (Fp F) ρ v v') : SRel S R (Fp F) (fun _ a b => a = b) ρ (asInt v) (asInt v') := by
 unfold asInt
 refine (asIntOf_rel h).bind ?_
 rintro σ _ a _ rfl
 exact .pure' rfl
theorem asBool_rel {v v' : Value} (h : VRel (Fp F) ρ v v') : SRel S R (Fp F) (fun _ a b => a = b) ρ (asBool v) (asBool v') := by
 cases h with
 | bool b => exact .pure' rfl
 | _ => exact .stuck
theorem asAgg_rel {v v' : Value} (h : VRel (Fp F) ρ v v') : SRel S R (Fp F) (fun σ a b => AVRel (Fp F) σ a b) ρ (asAgg v) (asAgg v') := by
 cases h with
 | agg h1 h2 => exact .pure' ⟨h1, h2⟩
 | _ => exact .stuck
abbrev QV (F : FuncId → Bool) : Ren → Value → Value → Prop := fun σ v v' => VRel (Fp F) σ v v'
theorem loadAt_rel (H : Same S R F) (t : TypeId) {v v' : Value} (h : VRel (Fp F) ρ v v') : SRel S R (Fp F) (QV F) ρ (Instr.loadAt t v) (Instr.loadAt t v') :=
 (sureAddr_rel h).bind fun _ _ _ _ ha => loadVar_rel H t ha
theorem storeAt_rel (H : Same S R F) (t : TypeId) {v v' x x' : Value} (h : VRel (Fp F) ρ v v') (hx : VRel (Fp F) ρ x x') : SRel S R (Fp F) (fun _ _ _ => True) ρ (Instr.storeAt t v x) (Instr.storeAt t v' x') :=
 (sureAddr_rel h).bind fun _ hσ _ _ ha => storeVar_rel H t ha (hx.mono hσ)
theorem alloc_rel (H : Same S R F) {t : TypeId} (hz : zeroOk S t = true) : SRel S R (Fp F) (QV F) ρ (Instr.alloc t true (.tuple #[])) (Instr.alloc t true (.tuple #[])) := by
 unfold Instr.alloc
 refine (zeroValue_rel H hz).bind ?_
 rintro σ _ a _ ⟨rfl, ha⟩
 exact (newVar_rel t (plain_rel ha)).bind fun _ _ _ _ h => .pure' (.ptr h)
theorem box_rel (t : TypeId) {v v' : Value} (h : VRel (Fp F) ρ v v') : SRel S R (Fp F) (QV F) ρ (Instr.box t v) (Instr.box t v') :=
 (newVar_rel t h).bind fun _ _ _ _ h => .pure' (.ptr h)
theorem extract_rel {v v' : Value} (h : VRel (Fp F) ρ v v') (i : Nat) : SRel S R (Fp F) (QV F) ρ (Instr.extract v i) (Instr.extract v' i) := by
 cases h with
 | @tuple x x' h1 h2 =>
   unfold Instr.extract
   simp only
   cases hv : x[i]? with
   | none => exact .stuck
   | some v =>
     have hi : i < x.size := (Array.getElem?_eq_some_iff.1 hv).1
     have hi' : i < x'.size := h1 ▸ hi
     rw [Array.getElem?_eq_getElem hi']
     exact .pure' (h2 i _ _ hv (Array.getElem?_eq_getElem hi'))
 | _ => exact .stuck
theorem field_rel (H : Same S R F) (t : TypeId) {v v' : Value} (h : VRel (Fp F) ρ v v') (i : Nat) : SRel S R (Fp F) (QV F) ρ (Instr.field t v i) (Instr.field t v' i) := by
 unfold Instr.field
 refine (underlying_rel H t).bind ?_
 rintro σ hσ d _ ⟨rfl, _⟩
 cases d with
 | struct fields =>
   simp only
   cases fields[i]? with
   | none => exact .stuck
   | some f => exact (asAgg_rel (h.mono hσ)).bind fun _ _ _ _ hc => part_rel H f.type hc f.offset
 | _ => exact .stuck
end
end Sim
end Go.Proofs.YthgelfnflafoiabGreat
namespace Go.Proofs.YthgelfnflafoiabGreat
namespace Sim
section
variable {S R : Program} {F : FuncId -> Bool} {ρ : Ren}
def ShQ (e : Ent) (x x' : Option (TypeId × Nat)) : Prop :=
 (∃ y y', x = some y /\ x' = some y' /\ (e.own = true -> y = y' /\ e.sh = 0) /\ (e.own = false -> y.1 = noType)) \/ (x = none /\ x' = none)
theorem shape_rel {r : Nat} {e : Ent} (h : ρ r = some e) : SRel S R (Fp F) (fun _ x x' => ShQ e x x') ρ (shape r) (shape e.blk) :=
 .shape h (fun x x' h1 h2 => .pure (.inl ⟨x, x', rfl, rfl, h1, h2⟩)) (.pure (.inr ⟨rfl, rfl⟩))
theorem getObj_rel {r : Nat} {e : Ent} (h : ρ r = some e) : SRel S R (Fp F) (fun σ o o' => ∃ a a' l, o = .number a l /\ o' = .number a' l /\ ARel σ a a') ρ (getObj r) (getObj e.blk) :=
 .getObj h fun a a' l ha => .pure ⟨a, a', l, rfl, rfl, ha⟩
theorem numberAt_rel {r : Nat} {e : Ent} (h : ρ r = some e) : SRel S R (Fp F) (fun σ x x' => (x = none /\ x' = none) \/ ∃ a a' l, x = some (a, l) /\ x' = some (a', l) /\ ARel σ a a') ρ (numberAt r) (numberAt e.blk) := by
 unfold numberAt
 refine (shape_rel h).bind fun σ hσ x x' hx => ?_
 rcases hx with ⟨y, y', rfl, rfl, _⟩ | ⟨rfl, rfl⟩
 · exact .pure' (.inl ⟨rfl, rfl⟩)
 · refine (getObj_rel (hσ _ _ h)).bind ?_
   rintro τ _ o o' ⟨a, a', l, rfl, rfl, ha⟩
   exact .pure' (.inr ⟨a, a', l, rfl, rfl, ha⟩)
theorem viewAt_rel {r : Nat} {e : Ent} (h : ρ r = some e) : SRel S R (Fp F) (fun _ x x' => x = none /\ x' = none) ρ (viewAt r) (viewAt e.blk) := by
 unfold viewAt
 refine (shape_rel h).bind fun σ hσ x x' hx => ?_
 rcases hx with ⟨y, y', rfl, rfl, _⟩ | ⟨rfl, rfl⟩
 · exact .pure' ⟨rfl, rfl⟩
 · refine (getObj_rel (hσ _ _ h)).bind ?_
   rintro τ _ o o' ⟨a, a', l, rfl, rfl, ha⟩
   exact .pure' ⟨rfl, rfl⟩
theorem behindNumber_rel {a a' : Addr} (ha : ARel ρ a a') : SRel S R (Fp F) (fun σ x x' => ARel σ x.1 x'.1 /\ x.2 = x'.2) ρ (behindNumber a) (behindNumber a') := by
 have ha0 := ha
 obtain ⟨e, he, hs, rfl⟩ := ha
 unfold behindNumber
 refine (numberAt_rel he).bind fun σ hσ x x' hx => ?_
 rcases hx with ⟨rfl, rfl⟩ | ⟨b, b', l, rfl, rfl, hb⟩
 · exact .pure' ⟨ha0.mono hσ, rfl⟩
 · exact .pure' ⟨hb, rfl⟩
theorem asNumber_rel {a a' : Addr} (ha : ARel ρ a a') (l : Bool) : SRel S R (Fp F) (QV F) ρ (asNumber a l) (asNumber a' l) :=
 .number ha fun _ r' _ => .pure (.ptr (.new r'))
theorem unsafeAdd_rel (H : Same S R F) (t : TypeId) {p p' y y' : Value} (hp : VRel (Fp F) ρ p p') (hy : VRel (Fp F) ρ y y') :
   SRel S R (Fp F) (QV F) ρ (Builtin.unsafeAdd_ #[] t #[p, y]) (Builtin.unsafeAdd_ #[] t #[p', y']) := by
 unfold Builtin.unsafeAdd_
 cases hp with
 | nilPtr =>
   refine (asInt_rel hy).bind ?_
   rintro σ hσ n _ rfl
   by_cases h0 : n = 0
   · simp only [h0, if_true]; exact .unsupported trivial
   · simp only [h0, if_false]
     by_cases h1 : n < 0
     · simp only [h1, if_true]; exact SRel.bind (Q := fun _ _ _ => False) (.unsupported trivial) fun _ _ _ _ hq => hq.elim
     · simp only [h1, if_false]; exact .unsupported trivial
 | @ptr a a' ha =>
   have ha0 := ha
   obtain ⟨e, he, hs, rfl⟩ := ha
   refine (asInt_rel hy).bind ?_
   rintro σ hσ n _ rfl
   by_cases h0 : n = 0
   · simp only [h0, if_true]
     refine (viewAt_rel (hσ _ _ he)).bind ?_
     rintro τ hτ _ _ ⟨rfl, rfl⟩
     exact .pure' (.ptr ((ha0.mono hσ).mono hτ))
   · simp only [h0, if_false]
     by_cases h1 : n < 0
     · simp only [h1, if_true]
       exact SRel.bind (Q := fun _ _ _ => False) (.unsupported trivial) fun _ _ _ _ hq => hq.elim
     · simp only [h1, if_false]
       refine (shape_rel (hσ _ _ he)).bind fun τ hτ x x' hx => ?_
       rcases hx with ⟨z, z', rfl, rfl, ho, hn⟩ | ⟨rfl, rfl⟩
       · simp only
         refine (program_rel (Q := fun _ a b => a = S /\ b = R) ⟨rfl, rfl⟩).bind ?_
         rintro υ hυ _ _ ⟨rfl, rfl⟩
         cases hown : e.own with
         | true =>
           obtain ⟨rfl, h2⟩ := ho hown
           rw [<- H.cab, <- H.cellsOf, h2, Nat.add_zero]
           cases cellAtBytes _ _ z.1 (z.2 / _) a.off n with
           | none => exact .unsupported trivial
           | some off => exact .pure' (.ptr ⟨e, hυ _ _ (hτ _ _ (hσ _ _ he)), hs, by simp [h2]⟩)
         | false =>
           rw [hn hown, H.cabNo]
           exact .unsupported trivial
       · exact .unsupported trivial
 | _ => exact .stuck
theorem movedNumber_rel (H : Same S R F) (t : TypeId) {p p' y y' : Value} (hp : VRel (Fp F) ρ p p') (hy : VRel (Fp F) ρ y y') :
   SRel S R (Fp F) (QV F) ρ (movedNumber t p y) (movedNumber t p' y') := by
 unfold movedNumber
 refine (underlying_rel H t).bind ?_
 rintro σ hσ d _ ⟨rfl, _⟩
 have hp' := hp.mono hσ
 have hy' := hy.mono hσ
 cases hp with
 | @ptr a a' ha =>
   have main : SRel S R (Fp F) (QV F) σ
       (do
         let (a, lost) <- behindNumber a
         match <- Builtin.unsafeAdd_ #[] t #[.pointer (some a), y] with
         | .pointer (some b) => asNumber b lost
         | v => pure v)
       (do
         let (a, lost) <- behindNumber a'
         match <- Builtin.unsafeAdd_ #[] t #[.pointer (some a), y'] with
         | .pointer (some b) => asNumber b lost
         | v => pure v) := by
     refine (behindNumber_rel (ha.mono hσ)).bind ?_
     rintro τ hτ ⟨b, l⟩ ⟨b', l'⟩ ⟨hb, hl⟩
     simp only at hb hl
     subst hl
     refine (unsafeAdd_rel H t (.ptr hb) (hy'.mono hτ)).bind fun υ _ v v' hv => ?_
     cases hv with
     | ptr h => exact asNumber_rel h l
     | bool b => exact .pure' (.bool b)
     | int k n => exact .pure' (.int k n)
     | string s => exact .pure' (.string s)
     | nilPtr => exact .pure' .nilPtr
     | nilSlice l c => exact .pure' (.nilSlice l c)
     | slice l c a => exact .pure' (.slice l c a)
     | void a a' => exact .pure' (.void a a')
     | nilFunc => exact .pure' .nilFunc
     | nilIface => exact .pure' .nilIface
     | func hf h1 i1 h2 i2 => exact .pure' (.func hf h1 i1 h2 i2)
     | iface t i => exact .pure' (.iface t i)
     | agg h1 i => exact .pure' (.agg h1 i)
     | tuple h1 i => exact .pure' (.tuple h1 i)
   cases d <;> first
     | exact SRel.bind (Q := fun _ _ _ => False) (.unsupported trivial) fun _ _ _ _ hq => hq.elim
     | exact main
 | _ =>
   cases d <;> first
     | exact SRel.bind (Q := fun _ _ _ => False) (.unsupported trivial) fun _ _ _ _ hq => hq.elim
     | exact unsafeAdd_rel H t hp' hy'
def fieldOk (S : Program) (t : TypeId) (i : Nat) : Bool := match S.underlying t with
 | some (.struct fs) => match fs[i]? with
   | some f => match S.info? f.type with | some x => x.size != 0 | none => true
   | none => true
 | _ => true
theorem fieldAt_rel (H : Same S R F) {t : TypeId} {i : Nat} (hf : fieldOk S t i = true) {v v' : Value} (h : VRel (Fp F) ρ v v') : SRel S R (Fp F) (QV F) ρ (Instr.fieldAt t v i) (Instr.fieldAt t v' i) := by
 unfold Instr.fieldAt
 refine (underlying_rel H t).bind ?_
 rintro σ hσ d _ ⟨rfl, hu⟩
 unfold fieldOk at hf
 rw [hu] at hf
 cases d with
 | struct fs =>
   simp only at hf ⊢
   cases hfs : fs[i]? with
   | none => exact .stuck
   | some f =>
     simp only [hfs] at hf ⊢
     refine (sureAddr_rel (h.mono hσ)).bind fun τ hτ a a' ha => ?_
     refine SRel.bind (Q := fun σ a a' => ARel σ a a') ?_ fun _ _ _ _ h => .pure' (.ptr h)
     unfold fieldPlace sizeOf
     simp only [bind_assoc, pure_bind]
     refine (typeInfo_rel H f.type).bind ?_
     rintro υ hυ x _ ⟨rfl, hx⟩
     rw [hx] at hf
     have h0 : ¬ x.size = 0 := by simpa using hf
     rw [if_neg h0, if_neg h0]
     exact .pure' ((ha.mono hυ).add _)
 | _ => exact .stuck
theorem tiny_rel {α β : Type} {Q : Ren -> α -> β -> Prop} {u : String} {k : IntKind} {x y : Int} {c : BoundsCode} (b : Bool) {x' : Sem β} :
   SRel S R (Fp F) Q ρ (if b = true then Go.unsupported (.noEntry u) else boundsPanic k x y c : Sem α) x' := by
 cases b
 · exact boundsPanic_doom
 · exact .unsupported trivial
theorem indexAt_rel (H : Same S R F) (t : TypeId) {v v' x x' : Value} (h : VRel (Fp F) ρ v v') (hx : VRel (Fp F) ρ x x') : SRel S R (Fp F) (QV F) ρ (Instr.indexAt t v x) (Instr.indexAt t v' x') := by
 unfold Instr.indexAt
 refine (asIntOf_rel hx).bind ?_
 rintro σ hσ ⟨k, i⟩ _ rfl
 refine (underlying_rel H t).bind ?_
 rintro τ hτ d _ ⟨rfl, _⟩
 have h' := (h.mono hσ).mono hτ
 cases d with
 | array len elem =>
   refine (sureAddr_rel h').bind fun υ hυ a a' ha => ?_
   simp only [pure_bind]
   refine (underlying_rel H t).bind ?_
   rintro ι hι d2 _ ⟨rfl, _⟩
   by_cases hb : 0 <= i /\ i < (len : Int)
   · rw [if_pos hb, if_pos hb]
     refine (sizeOf_rel H elem).bind ?_
     rintro κ hκ n _ rfl
     exact .pure' (.ptr (((ha.mono hι).mono hκ).add _))
   · rw [if_neg hb, if_neg hb]
     exact tiny_rel _
 | slice elem =>
   cases h' with
   | nilSlice l c =>
     simp only [pure_bind]
     refine (underlying_rel H t).bind ?_
     rintro ι hι d2 _ ⟨rfl, _⟩
     exact boundsPanic_doom
   | slice l c ha =>
     simp only [pure_bind]
     refine (underlying_rel H t).bind ?_
     rintro ι hι d2 _ ⟨rfl, _⟩
     by_cases hb : 0 <= i /\ i < (l : Int)
     · rw [if_pos hb, if_pos hb]
       refine (sizeOf_rel H elem).bind ?_
       rintro κ hκ n _ rfl
       exact .pure' (.ptr (((ha.mono hι).mono hκ).add _))
     · rw [if_neg hb, if_neg hb]
       exact tiny_rel _
   | void a a' =>
     simp only [pure_bind]
     refine (underlying_rel H t).bind ?_
     rintro ι hι d2 _ ⟨rfl, _⟩
     have hb : ¬ (0 <= i /\ i < ((0 : Nat) : Int)) := by omega
     rw [if_neg hb, if_neg hb]
     exact tiny_rel _
   | _ => exact SRel.bind (Q := fun _ _ _ => False) (.stuck) fun _ _ _ _ hq => hq.elim
 | _ => exact SRel.bind (Q := fun _ _ _ => False) (.stuck) fun _ _ _ _ hq => hq.elim
theorem index_rel (H : Same S R F) (t : TypeId) {v v' x x' : Value} (h : VRel (Fp F) ρ v v') (hx : VRel (Fp F) ρ x x') : SRel S R (Fp F) (QV F) ρ (Instr.index t v x) (Instr.index t v' x') := by
 unfold Instr.index
 refine (asIntOf_rel hx).bind ?_
 rintro σ hσ ⟨k, i⟩ _ rfl
 refine (underlying_rel H t).bind ?_
 rintro τ hτ d _ ⟨rfl, _⟩
 have h' := (h.mono hσ).mono hτ
 cases d with
 | array len elem =>
   cases h' with
   | agg h1 h2 =>
     simp only
     by_cases hb : 0 <= i /\ i < (len : Int)
     · rw [if_pos hb, if_pos hb]
       refine (sizeOf_rel H elem).bind ?_
       rintro κ hκ n _ rfl
       exact part_rel H elem (AVRel.mono hκ ⟨h1, h2⟩) _
     · rw [if_neg hb, if_neg hb]; exact boundsPanic_doom
   | _ => exact .stuck
 | string =>
   cases h' with
   | string s =>
     simp only
     cases (if 0 <= i then s[i.toNat]? else none) with
     | none => exact boundsPanic_doom
     | some b => exact .pure' (.int _ _)
   | _ => exact .stuck
 | _ => exact .stuck
def ORel (F : FuncId -> Prop) (ρ : Ren) (x x' : Option Value) : Prop := (x = none /\ x' = none) \/ ∃ v v', x = some v /\ x' = some v' /\ VRel F ρ v v'
theorem ORel.mono {F : FuncId -> Prop} {σ : Ren} (h : ρ.le σ) {x x' : Option Value} (r : ORel F ρ x x') : ORel F σ x x' := by
 rcases r with r | ⟨v, v', h1, h2, h3⟩
 · exact .inl r
 · exact .inr ⟨v, v', h1, h2, h3.mono h⟩
theorem sliceBound_rel {v v' : Value} (h : VRel (Fp F) ρ v v') (y : Nat) (c : BoundsCode) : SRel S R (Fp F) (fun _ a b => a = b /\ a <= y) ρ (Instr.sliceBound v y c) (Instr.sliceBound v' y c) := by
 unfold Instr.sliceBound
 refine (asIntOf_rel h).bind ?_
 rintro σ hσ ⟨k, i⟩ _ rfl
 simp only
 split
 · rename_i hb
   exact .pure' ⟨rfl, by omega⟩
 · exact boundsPanic_doom
theorem sliceBounds_rel (b : Bool) (len cap : Nat) {lo lo' hi hi' mx mx' : Option Value} (h1 : ORel (Fp F) ρ lo lo') (h2 : ORel (Fp F) ρ hi hi') (h3 : ORel (Fp F) ρ mx mx') :
   SRel S R (Fp F) (fun _ a b => a = b /\ (len = 0 -> cap = 0 -> a = (0, 0, 0))) ρ (Instr.sliceBounds b len cap lo hi mx) (Instr.sliceBounds b len cap lo' hi' mx') := by
 unfold Instr.sliceBounds
 rcases h1 with ⟨rfl, rfl⟩ | ⟨v1, v1', rfl, rfl, h1⟩ <;> rcases h2 with ⟨rfl, rfl⟩ | ⟨v2, v2', rfl, rfl, h2⟩ <;> rcases h3 with ⟨rfl, rfl⟩ | ⟨v3, v3', rfl, rfl, h3⟩ <;> simp only [pure_bind]
 · exact .pure' ⟨rfl, fun e1 e2 => by subst e1 e2; rfl⟩
 · refine (sliceBound_rel h3 _ _).bind fun σ hσ m _ e => ?_
   exact SRel.bind (Q := fun _ _ _ => False) (.stuck) fun _ _ _ _ hq => hq.elim
 · refine (sliceBound_rel h2 _ _).bind ?_
   rintro τ hτ h _ ⟨rfl, hh⟩
   exact .pure' ⟨rfl, fun e1 e2 => by subst e1 e2; simp only [Prod.mk.injEq]; first | omega | (simp_all; done) | (simp_all; omega)⟩
 · refine (sliceBound_rel h3 _ _).bind ?_
   rintro σ hσ m _ ⟨rfl, hm⟩
   refine (sliceBound_rel (h2.mono hσ) _ _).bind ?_
   rintro τ hτ h _ ⟨rfl, hh⟩
   exact .pure' ⟨rfl, fun e1 e2 => by subst e1 e2; simp only [Prod.mk.injEq]; first | omega | (simp_all; done) | (simp_all; omega)⟩
 · refine (sliceBound_rel h1 _ _).bind ?_
   rintro τ hτ h _ ⟨rfl, hh⟩
   exact .pure' ⟨rfl, fun e1 e2 => by subst e1 e2; simp only [Prod.mk.injEq]; first | omega | (simp_all; done) | (simp_all; omega)⟩
 · refine (sliceBound_rel h3 _ _).bind fun σ hσ m _ e => ?_
   exact SRel.bind (Q := fun _ _ _ => False) (.stuck) fun _ _ _ _ hq => hq.elim
 · refine (sliceBound_rel h2 _ _).bind ?_
   rintro τ hτ h _ ⟨rfl, hh⟩
   refine (sliceBound_rel (h1.mono hτ) _ _).bind ?_
   rintro υ hυ l _ ⟨rfl, hl⟩
   exact .pure' ⟨rfl, fun e1 e2 => by subst e1 e2; simp only [Prod.mk.injEq]; first | omega | (simp_all; done) | (simp_all; omega)⟩
 · refine (sliceBound_rel h3 _ _).bind ?_
   rintro σ hσ m _ ⟨rfl, hm⟩
   refine (sliceBound_rel (h2.mono hσ) _ _).bind ?_
   rintro τ hτ h _ ⟨rfl, hh⟩
   refine (sliceBound_rel ((h1.mono hσ).mono hτ) _ _).bind ?_
   rintro υ hυ l _ ⟨rfl, hl⟩
   exact .pure' ⟨rfl, fun e1 e2 => by subst e1 e2; simp only [Prod.mk.injEq]; first | omega | (simp_all; done) | (simp_all; omega)⟩
theorem slice_rel (H : Same S R F) (t : TypeId) {v v' : Value} (h : VRel (Fp F) ρ v v') {lo lo' hi hi' mx mx' : Option Value} (h1 : ORel (Fp F) ρ lo lo') (h2 : ORel (Fp F) ρ hi hi') (h3 : ORel (Fp F) ρ mx mx') :
   SRel S R (Fp F) (QV F) ρ (Instr.slice t v lo hi mx) (Instr.slice t v' lo' hi' mx') := by
 unfold Instr.slice
 refine (underlying_rel H t).bind ?_
 rintro σ hσ d _ ⟨rfl, _⟩
 have h' := h.mono hσ
 have k1 := h1.mono hσ
 have k2 := h2.mono hσ
 have k3 := h3.mono hσ
 have e : mx.isSome = mx'.isSome := by
   rcases h3 with ⟨rfl, rfl⟩ | ⟨u, u', rfl, rfl, hu⟩ <;> rfl
 cases d with
 | string =>
   cases h' with
   | string s =>
     simp only [<- e]
     have go : SRel S R (Fp F) (QV F) σ (do let (l, h, _) <- Instr.sliceBounds false s.size s.size lo hi none; pure (Value.string (s.extract l h))) (do let (l, h, _) <- Instr.sliceBounds false s.size s.size lo' hi' none; pure (Value.string (s.extract l h))) := by
       refine (sliceBounds_rel false s.size s.size k1 k2 (.inl ⟨rfl, rfl⟩)).bind ?_
       rintro τ _ ⟨l, h, m⟩ _ ⟨rfl, _⟩
       exact .pure' (.string _)
     split
     · exact SRel.bind (Q := fun _ _ _ => False) (.stuck) fun _ _ _ _ hq => hq.elim
     · exact go
   | _ => exact .stuck
 | slice elem =>
   have fin : ∀ {a a' : Option Addr} (len cap : Nat), ((a = none /\ a' = none) \/ ∃ b b', a = some b /\ a' = some b' /\ ARel σ b b') -> SRel S R (Fp F) (QV F) σ
       (do let (l, h, m) <- Instr.sliceBounds true len cap lo hi mx; let size <- sizeOf elem; pure (Value.slice (if m = l then a else a.map (·.add (l * size))) (h - l) (m - l)))
       (do let (l, h, m) <- Instr.sliceBounds true len cap lo' hi' mx'; let size <- sizeOf elem; pure (Value.slice (if m = l then a' else a'.map (·.add (l * size))) (h - l) (m - l))) := by
     intro a a' len cap ha
     refine (sliceBounds_rel true len cap k1 k2 k3).bind ?_
     rintro τ hτ ⟨l, h, m⟩ _ ⟨rfl, _⟩
     refine (sizeOf_rel H elem).bind ?_
     rintro υ hυ n _ rfl
     rcases ha with ⟨rfl, rfl⟩ | ⟨b, b', rfl, rfl, hb⟩
     · by_cases hm : m = l
       · simp only [hm, if_true]; exact .pure' (.nilSlice _ _)
       · simp only [hm, if_false, Option.map_none]; exact .pure' (.nilSlice _ _)
     · by_cases hm : m = l
       · simp only [hm, if_true]; exact .pure' (.slice _ _ ((hb.mono hτ).mono hυ))
       · simp only [hm, if_false, Option.map_some]; exact .pure' (.slice _ _ (((hb.mono hτ).mono hυ).add _))
   cases h' with
   | nilSlice l c => exact fin l c (.inl ⟨rfl, rfl⟩)
   | slice l c ha => exact fin l c (.inr ⟨_, _, rfl, rfl, ha⟩)
   | void a a' =>
     refine (sliceBounds_rel true 0 0 k1 k2 k3).bind ?_
     rintro τ hτ ⟨l, h, m⟩ _ ⟨rfl, hz⟩
     obtain ⟨rfl, rfl, rfl⟩ := Prod.mk.injEq .. ▸ (by have := hz rfl rfl; simpa only [Prod.mk.injEq] using this : l = 0 /\ h = 0 /\ m = 0)
     refine (sizeOf_rel H elem).bind ?_
     rintro υ hυ n _ rfl
     exact .pure' (.void _ _)
   | _ => exact .stuck
 | pointer arr =>
   simp only
   refine (asAddr_rel h').bind fun τ hτ a a' ha => ?_
   refine (underlying_rel H arr).bind ?_
   rintro υ hυ d2 _ ⟨rfl, _⟩
   cases d2 with
   | array n elem =>
     refine (sliceBounds_rel false n n ((k1.mono hτ).mono hυ) ((k2.mono hτ).mono hυ) ((k3.mono hτ).mono hυ)).bind ?_
     rintro ι hι ⟨l, h, m⟩ _ ⟨rfl, _⟩
     refine (sizeOf_rel H elem).bind ?_
     rintro κ hκ n _ rfl
     by_cases hm : m = l
     · simp only [hm, if_true]; exact .pure' (.slice _ _ (((ha.mono hυ).mono hι).mono hκ))
     · simp only [hm, if_false]; exact .pure' (.slice _ _ ((((ha.mono hυ).mono hι).mono hκ).add _))
   | _ => exact .stuck
 | _ => cases h' <;> exact .stuck
theorem sliceAt_rel (H : Same S R F) (t : TypeId) {v v' : Value} (h : VRel (Fp F) ρ v v') {lo lo' hi hi' mx mx' : Option Value} (h1 : ORel (Fp F) ρ lo lo') (h2 : ORel (Fp F) ρ hi hi') (h3 : ORel (Fp F) ρ mx mx') :
   SRel S R (Fp F) (QV F) ρ (Instr.sliceAt t v lo hi mx) (Instr.sliceAt t v' lo' hi' mx') := by
 unfold Instr.sliceAt
 refine (underlying_rel H t).bind ?_
 rintro σ hσ d _ ⟨rfl, _⟩
 cases d with
 | array n elem =>
   simp only
   refine (sureAddr_rel (h.mono hσ)).bind fun τ hτ a a' ha => ?_
   refine (sliceBounds_rel false n n ((h1.mono hσ).mono hτ) ((h2.mono hσ).mono hτ) ((h3.mono hσ).mono hτ)).bind ?_
   rintro ι hι ⟨l, h, m⟩ _ ⟨rfl, _⟩
   refine (sizeOf_rel H elem).bind ?_
   rintro κ hκ n _ rfl
   by_cases hm : m = l
   · simp only [hm, if_true]; exact .pure' (.slice _ _ ((ha.mono hι).mono hκ))
   · simp only [hm, if_false]; exact .pure' (.slice _ _ (((ha.mono hι).mono hκ).add _))
 | _ => exact slice_rel H t (h.mono hσ) (h1.mono hσ) (h2.mono hσ) (h3.mono hσ)
end
end Sim
end Go.Proofs.YthgelfnflafoiabGreat
namespace Go.Proofs.YthgelfnflafoiabGreat
namespace Sim
section
variable {S R : Program} {F : FuncId -> Bool} {ρ : Ren}
theorem askRoom_rel (n : Nat) : SRel S R (Fp F) (fun _ _ _ => True) ρ (askRoom n) (askRoom n) := by
 unfold askRoom
 split
 · exact .mark trivial (.pure trivial)
 · exact .pure' trivial
theorem flat1_cells {v : Value} (h : plainB v = true) : v.cells.all flat1 = true := by
 cases v <;> first
   | exact h
   | (simp only [plainB] at h; simp [Value.cells, h])
theorem flat_get {z : Array Value} (h : z.all flat1 = true) (i : Nat) : flat1 (z[i]!) = true := by
 by_cases hlt : i < z.size
 · rw [getElem!_pos z i hlt]
   exact Array.all_eq_true_iff_forall_mem.1 h _ (Array.getElem_mem hlt)
 · rw [getElem!_neg z i hlt]; rfl
theorem zeros_rel {z : Array Value} (h : z.all flat1 = true) (n : Nat) : AVRel (Fp F) ρ ((Array.range n).map (z[· % z.size]!)) ((Array.range n).map (z[· % z.size]!)) := by
 refine .of_flat ?_
 rw [Array.all_eq_true_iff_forall_mem]
 intro v hv
 obtain ⟨i, _, rfl⟩ := Array.mem_map.1 hv
 exact flat_get h _
theorem zeroCells_rel {z : Array Value} (h : z.all flat1 = true) (n : Nat) : AVRel (Fp F) ρ (Builtin.zeroCells z n) (Builtin.zeroCells z n) := zeros_rel h _
def elemZero (S : Program) (t : TypeId) : Bool := match S.underlying t with
 | some (.slice e) => zeroOk S e
 | _ => true
theorem makeSlice_rel (H : Same S R F) {t : TypeId} (hz : elemZero S t = true) {l l' c c' : Value} (hl : VRel (Fp F) ρ l l') (hc : VRel (Fp F) ρ c c') : SRel S R (Fp F) (QV F) ρ (Instr.makeSlice t l c) (Instr.makeSlice t l' c') := by
 unfold Instr.makeSlice
 refine (underlying_rel H t).bind ?_
 rintro σ hσ d _ ⟨rfl, hu⟩
 unfold elemZero at hz
 rw [hu] at hz
 cases d with
 | slice elem =>
   simp only at hz ⊢
   refine (asInt_rel (hl.mono hσ)).bind ?_
   rintro τ hτ x _ rfl
   refine (asInt_rel ((hc.mono hσ).mono hτ)).bind ?_
   rintro υ hυ y _ rfl
   refine (typeInfo_rel H elem).bind ?_
   rintro ι hι i _ ⟨rfl, _⟩
   have fin : SRel S R (Fp F) (QV F) ι
       (do askRoom ((IntKind.i64.wrap y).toNat * i.bytes); let n := (IntKind.i64.wrap y).toNat * (<- sizeOf elem); let zero <- if n = 0 then pure #[] else do pure (<- zeroValue elem).cells
           let a <- newRow elem ((Array.range n).map (zero[· % zero.size]!)); pure (Value.slice (some a) (IntKind.i64.wrap x).toNat (IntKind.i64.wrap y).toNat))
       (do askRoom ((IntKind.i64.wrap y).toNat * i.bytes); let n := (IntKind.i64.wrap y).toNat * (<- sizeOf elem); let zero <- if n = 0 then pure #[] else do pure (<- zeroValue elem).cells
           let a <- newRow elem ((Array.range n).map (zero[· % zero.size]!)); pure (Value.slice (some a) (IntKind.i64.wrap x).toNat (IntKind.i64.wrap y).toNat)) := by
     refine (askRoom_rel _).bind fun a1 b1 _ _ _ => ?_
     refine (sizeOf_rel H elem).bind ?_
     rintro a2 b2 n _ rfl
     by_cases h0 : (IntKind.i64.wrap y).toNat * n = 0
     · simp only [h0, if_true, pure_bind]
       exact (newRow_rel elem (zeros_rel (by simp) 0)).bind fun _ _ _ _ ha => .pure' (.slice _ _ ha)
     · simp only [h0, if_false, pure_bind]
       refine (zeroValue_rel H hz).bind ?_
       rintro a3 b3 z _ ⟨rfl, hp⟩
       exact (newRow_rel elem (zeros_rel (flat1_cells hp) _)).bind fun _ _ _ _ ha => .pure' (.slice _ _ ha)
   split
   · split
     · exact SRel.bind (Q := fun _ _ _ => False) (runtimePanic_doom (e := .error _) trivial) fun _ _ _ _ hq => hq.elim
     · split
       · exact SRel.bind (Q := fun _ _ _ => False) (runtimePanic_doom (e := .error _) trivial) fun _ _ _ _ hq => hq.elim
       · refine SRel.bind (Q := fun _ _ _ => True) (.choose _ (fun _ _ h => by cases h) fun n => .pure trivial) fun _ _ _ _ _ => ?_
         exact SRel.bind (Q := fun _ _ _ => False) (runtimePanic_doom (e := .error _) trivial) fun _ _ _ _ hq => hq.elim
   · exact fin
 | _ => exact .stuck
def PRel (F : FuncId -> Prop) (ρ : Ren) (l l' : List (Nat × Value)) : Prop := l.length = l'.length /\ ∀ (i : Nat) x x', l[i]? = some x -> l'[i]? = some x' -> x.1 = x'.1 /\ VRel F ρ x.2 x'.2
theorem fold_rel {c c' cs cs' : Array Value} (hc : AVRel (Fp F) ρ c c') (off : Nat) (hcs : AVRel (Fp F) ρ cs cs') :
   AVRel (Fp F) ρ (c.zipIdx.foldl (fun cs (x : Value × Nat) => cs.setIfInBounds (off + x.2) x.1) cs) (c'.zipIdx.foldl (fun cs (x : Value × Nat) => cs.setIfInBounds (off + x.2) x.1) cs') := by
 rw [<- Array.foldl_toList, <- Array.foldl_toList, Array.toList_zipIdx, Array.toList_zipIdx]
 have key : ∀ (l l' : List Value) (k : Nat) (a a' : Array Value), LRel (Fp F) ρ l l' -> AVRel (Fp F) ρ a a' ->
     AVRel (Fp F) ρ ((l.zipIdx k).foldl (fun cs (x : Value × Nat) => cs.setIfInBounds (off + x.2) x.1) a) ((l'.zipIdx k).foldl (fun cs (x : Value × Nat) => cs.setIfInBounds (off + x.2) x.1) a') := by
   intro l
   induction l with
   | nil =>
     intro l' k a a' hl ha
     cases l' with
     | nil => exact ha
     | cons y l' => have := hl.1; simp at this
   | cons x l ih =>
     intro l' k a a' hl ha
     cases l' with
     | nil => have := hl.1; simp at this
     | cons y l' =>
       simp only [List.zipIdx_cons, List.foldl_cons]
       exact ih l' (k + 1) _ _ hl.cons.2 (ha.set _ hl.cons.1)
 exact key _ _ 0 _ _ hc.toList hcs
theorem fill_rel (place : Nat -> Option (Nat × Nat)) : ∀ (l l' : List (Nat × Value)) {c c' : Array Value}, PRel (Fp F) ρ l l' -> AVRel (Fp F) ρ c c' ->
   (Instr.fill place c l = none /\ Instr.fill place c' l' = none) \/ ∃ d d', Instr.fill place c l = some d /\ Instr.fill place c' l' = some d' /\ AVRel (Fp F) ρ d d'
 | [], [], c, c', _, hc => .inr ⟨c, c', rfl, rfl, hc⟩
 | [], _ :: _, _, _, h, _ => by have := h.1; simp at this
 | _ :: _, [], _, _, h, _ => by have := h.1; simp at this
 | (i, v) :: l, (i', v') :: l', c, c', h, hc => by
   obtain ⟨h1, h2⟩ := h.2 0 (i, v) (i', v') rfl rfl
   simp only at h1 h2
   subst h1
   have hl : PRel (Fp F) ρ l l' := ⟨by have := h.1; simpa using this, fun j x x' hx hx' => h.2 (j + 1) x x' (by simpa using hx) (by simpa using hx')⟩
   unfold Instr.fill
   cases hp : place i with
   | none => exact .inl ⟨rfl, rfl⟩
   | some os =>
     obtain ⟨off, size⟩ := os
     simp only
     rw [<- h2.cells.1, <- hc.1]
     split
     · exact .inl ⟨rfl, rfl⟩
     · exact fill_rel place l l' hl (fold_rel h2.cells off hc)
theorem mapM_const {α γ : Type} (xs : List α) (f : α -> Sem γ) (hf : ∀ x ρ, SRel S R (Fp F) (fun _ a b => a = b) ρ (f x) (f x)) : ∀ ρ, SRel S R (Fp F) (fun _ a b => a = b) ρ (xs.mapM f) (xs.mapM f) := by
 induction xs with
 | nil => intro ρ; simp only [List.mapM_nil]; exact .pure' rfl
 | cons x xs ih =>
   intro ρ
   simp only [List.mapM_cons]
   refine (hf x ρ).bind ?_
   rintro σ _ a _ rfl
   refine (ih σ).bind ?_
   rintro τ _ b _ rfl
   exact .pure' rfl
theorem mapA_const {α γ : Type} (xs : Array α) (f : α -> Sem γ) (hf : ∀ x ρ, SRel S R (Fp F) (fun _ a b => a = b) ρ (f x) (f x)) (ρ : Ren) : SRel S R (Fp F) (fun _ a b => a = b) ρ (xs.mapM f) (xs.mapM f) := by
 rw [Array.mapM_eq_mapM_toList, map_eq_pure_bind]
 refine (mapM_const xs.toList f hf ρ).bind ?_
 rintro σ _ a _ rfl
 exact .pure' rfl
theorem build_rel (H : Same S R F) {t : TypeId} (hz : zeroOk S t = true) {l l' : Array (Nat × Value)} (hl : PRel (Fp F) ρ l.toList l'.toList) : SRel S R (Fp F) (QV F) ρ (Instr.build t l) (Instr.build t l') := by
 unfold Instr.build
 refine (zeroValue_rel H hz).bind ?_
 rintro σ hσ z _ ⟨rfl, hp⟩
 refine (underlying_rel H t).bind ?_
 rintro τ hτ d _ ⟨rfl, _⟩
 have hl' : PRel (Fp F) τ l.toList l'.toList := ⟨hl.1, fun i x x' hx hx' => ⟨(hl.2 i x x' hx hx').1, ((hl.2 i x x' hx hx').2.mono hσ).mono hτ⟩⟩
 have hzr : ∀ υ, AVRel (Fp F) υ z.cells z.cells := fun υ => .of_flat (flat1_cells hp)
 cases d with
 | struct fields =>
   simp only
   refine (mapA_const fields _ (fun f ρ => (sizeOf_rel H f.type).bind fun σ _ a b e => .pure' (by rw [e])) τ).bind ?_
   rintro υ hυ places _ rfl
   rcases fill_rel (F := F) (places[·]?) l.toList l'.toList (ρ := υ) ⟨hl'.1, fun i x x' hx hx' => ⟨(hl'.2 i x x' hx hx').1, (hl'.2 i x x' hx hx').2.mono hυ⟩⟩ (hzr υ) with ⟨h1, h2⟩ | ⟨d, d', h1, h2, h3⟩
   · rw [h1, h2]; exact .stuck
   · rw [h1, h2]; exact .pure' (.agg h3.1 h3.2)
 | array n elem =>
   simp only
   refine (sizeOf_rel H elem).bind ?_
   rintro υ hυ n _ rfl
   rcases fill_rel (F := F) (fun i => some (i * n, n)) l.toList l'.toList (ρ := υ) ⟨hl'.1, fun i x x' hx hx' => ⟨(hl'.2 i x x' hx hx').1, (hl'.2 i x x' hx hx').2.mono hυ⟩⟩ (hzr υ) with ⟨h1, h2⟩ | ⟨d, d', h1, h2, h3⟩
   · rw [h1, h2]; exact .stuck
   · rw [h1, h2]; exact .pure' (.agg h3.1 h3.2)
 | _ => exact .stuck
theorem buildSlice_rel (H : Same S R F) {t : TypeId} (hz : elemZero S t = true) (len : Nat) {l l' : Array (Nat × Value)} (hl : PRel (Fp F) ρ l.toList l'.toList) : SRel S R (Fp F) (QV F) ρ (Instr.buildSlice t len l) (Instr.buildSlice t len l') := by
 unfold Instr.buildSlice
 refine (underlying_rel H t).bind ?_
 rintro σ hσ d _ ⟨rfl, hu⟩
 unfold elemZero at hz
 rw [hu] at hz
 cases d with
 | slice elem =>
   simp only at hz ⊢
   refine (sizeOf_rel H elem).bind ?_
   rintro τ hτ n _ rfl
   have fl : ∀ {υ : Ren} (hυ : τ.le υ) (z : Array Value), z.all flat1 = true -> _ := fun {υ} hυ z hp =>
     fill_rel (F := F) (fun i => some (i * n, n)) l.toList l'.toList (ρ := υ) ⟨hl.1, fun i x x' hx hx' => ⟨(hl.2 i x x' hx hx').1, (((hl.2 i x x' hx hx').2.mono hσ).mono hτ).mono hυ⟩⟩ (zeros_rel hp (len * n))
   by_cases hb : len * n > 2 ^ 24
   · rw [if_pos hb, if_pos hb]
     exact SRel.bind (Q := fun _ _ _ => False) (.unsupported trivial) fun _ _ _ _ hq => hq.elim
   · rw [if_neg hb, if_neg hb]
     by_cases h0 : len * n = 0
     · rw [if_pos h0, if_pos h0, pure_bind, pure_bind]
       rcases fl (Ren.le_refl _) #[] (by simp) with ⟨h1, h2⟩ | ⟨d, d', h1, h2, h3⟩
       · rw [h1, h2]; exact .stuck
       · rw [h1, h2]; exact (newRow_rel elem h3).bind fun _ _ _ _ ha => .pure' (.slice _ _ ha)
     · rw [if_neg h0, if_neg h0]
       simp only [pure_bind]
       refine (zeroValue_rel H hz).bind ?_
       rintro a3 b3 z _ ⟨rfl, hp⟩
       rcases fl b3 z.cells (flat1_cells hp) with ⟨h1, h2⟩ | ⟨d, d', h1, h2, h3⟩
       · rw [h1, h2]; exact .stuck
       · rw [h1, h2]; exact (newRow_rel elem h3).bind fun _ _ _ _ ha => .pure' (.slice _ _ ha)
 | _ => exact .stuck
def Vd (v : Value) : Prop := ∃ p, v = .slice (some p) 0 0
theorem lenOf_rel {v v' : Value} (h : VRel (Fp F) ρ v v') : SRel S R (Fp F) (fun _ a b => a = b /\ (Vd v -> a = 0)) ρ (Builtin.lenOf v) (Builtin.lenOf v') := by
 cases h with
 | nilSlice l c => exact .pure' ⟨rfl, fun ⟨_, e⟩ => by cases e⟩
 | slice l c a => exact .pure' ⟨rfl, fun ⟨_, e⟩ => by cases e; rfl⟩
 | void a a' => exact .pure' ⟨rfl, fun _ => rfl⟩
 | string s => exact .pure' ⟨rfl, fun ⟨_, e⟩ => by cases e⟩
 | _ => exact .stuck
theorem firstCells0 (size : Nat) {v v' : Value} (h : VRel (Fp F) ρ v v') : (Builtin.firstCells size 0 v = pure #[] /\ Builtin.firstCells size 0 v' = pure #[]) \/ ∃ u, Builtin.firstCells size 0 v = stuck u := by
 cases h with
 | nilSlice l c => exact .inl ⟨rfl, rfl⟩
 | slice l c a => exact .inl ⟨by simp [Builtin.firstCells, loadCells, loadCellsFrom], by simp [Builtin.firstCells, loadCells, loadCellsFrom]⟩
 | void a a' => exact .inl ⟨by simp [Builtin.firstCells, loadCells, loadCellsFrom], by simp [Builtin.firstCells, loadCells, loadCellsFrom]⟩
 | string s => exact .inl ⟨by simp [Builtin.firstCells], by simp [Builtin.firstCells]⟩
 | _ => exact .inr ⟨_, rfl⟩
theorem firstCells_rel (size n : Nat) {v v' : Value} (hn : Vd v -> n = 0) (h : VRel (Fp F) ρ v v') : SRel S R (Fp F) (fun σ a b => AVRel (Fp F) σ a b) ρ (Builtin.firstCells size n v) (Builtin.firstCells size n v') := by
 cases h with
 | nilSlice l c => exact .pure' .empty
 | slice l c a => exact loadCells_rel a _
 | void a a' =>
   obtain rfl := hn ⟨_, rfl⟩
   rcases firstCells0 (F := F) (ρ := ρ) size (.void a a') with ⟨e1, e2⟩ | ⟨u, e1⟩
   · rw [e1, e2]; exact .pure' .empty
   · rw [e1]; exact .stuck
 | string s =>
   refine .pure' (.of_flat ?_)
   rw [Array.all_eq_true_iff_forall_mem]
   intro v hv
   obtain ⟨i, _, rfl⟩ := Array.mem_map.1 hv
   rfl
 | _ => exact .stuck
theorem len_rel (H : Same S R F) (ts : Array TypeId) (t0 : TypeId) {x x' : Array Value} (h : AVRel (Fp F) ρ x x') : SRel S R (Fp F) (QV F) ρ (Builtin.len_ ts t0 x) (Builtin.len_ ts t0 x') := by
 unfold Builtin.len_
 cases ts[0]? with
 | none => exact .stuck
 | some t =>
   cases hx : x[0]? with
   | none => exact .stuck
   | some v =>
     have hi : 0 < x.size := (Array.getElem?_eq_some_iff.1 hx).1
     have hi' : 0 < x'.size := h.1 ▸ hi
     rw [Array.getElem?_eq_getElem hi']
     have hv := h.2 0 _ _ hx (Array.getElem?_eq_getElem hi')
     simp only
     refine (underlying_rel H t).bind ?_
     rintro σ hσ d _ ⟨rfl, _⟩
     generalize x'[0] = v' at hv
     cases d with
     | string => cases hv <;> first | exact .pure' (.int _ _) | exact .stuck
     | array n e => exact .pure' (.int _ _)
     | pointer arr =>
       refine (underlying_rel H arr).bind ?_
       rintro τ hτ d2 _ ⟨rfl, _⟩
       cases d2 with
       | array n e => exact .pure' (.int _ _)
       | _ => exact .stuck
     | slice e => cases hv <;> first | exact .pure' (.int _ _) | exact .stuck
     | map a b => cases hv <;> exact .stuck
     | chan a b => cases hv <;> exact .stuck
     | _ => exact .stuck
theorem cap_rel (H : Same S R F) (ts : Array TypeId) (t0 : TypeId) {x x' : Array Value} (h : AVRel (Fp F) ρ x x') : SRel S R (Fp F) (QV F) ρ (Builtin.cap_ ts t0 x) (Builtin.cap_ ts t0 x') := by
 unfold Builtin.cap_
 cases ts[0]? with
 | none => exact .stuck
 | some t =>
   cases hx : x[0]? with
   | none => exact .stuck
   | some v =>
     have hi : 0 < x.size := (Array.getElem?_eq_some_iff.1 hx).1
     have hi' : 0 < x'.size := h.1 ▸ hi
     rw [Array.getElem?_eq_getElem hi']
     have hv := h.2 0 _ _ hx (Array.getElem?_eq_getElem hi')
     simp only
     refine (underlying_rel H t).bind ?_
     rintro σ hσ d _ ⟨rfl, _⟩
     generalize x'[0] = v' at hv
     cases d with
     | array n e => exact .pure' (.int _ _)
     | pointer arr =>
       refine (underlying_rel H arr).bind ?_
       rintro τ hτ d2 _ ⟨rfl, _⟩
       cases d2 with
       | array n e => exact .pure' (.int _ _)
       | _ => exact .stuck
     | slice e => cases hv <;> first | exact .pure' (.int _ _) | exact .stuck
     | chan a b => cases hv <;> exact .stuck
     | _ => exact .stuck
end
end Sim
end Go.Proofs.YthgelfnflafoiabGreat
namespace Go.Proofs.YthgelfnflafoiabGreat
namespace Sim
section
variable {S R : Program} {F : FuncId -> Bool} {ρ : Ren}
theorem holdsCells_run (a : Addr) (n : Nat) (s : World) : ∃ b, (Builtin.holdsCells a n).run S s = .ok b s := by
 unfold Builtin.holdsCells
 simp only [Sem.run_bind]
 show ∃ b, Result.andThen (Sem.run S (.shape a.block .pure) s) _ = _
 simp only [Sem.run, Result.andThen]
 cases s.shape? a.block with
 | none => exact ⟨_, rfl⟩
 | some x => exact ⟨_, rfl⟩
theorem mayShare_run (size l n : Nat) (b : Option Addr) (x : Value) (s : World) : ∃ y, (Builtin.mayShare size l n b x).run S s = .ok y s := by
 unfold Builtin.mayShare
 have fin : ∀ there : Bool, ∃ y, (if (!there) = true then (pure true : Sem Bool) else
     match x with
     | .slice (some c) _ _ => do pure (!(<- Builtin.holdsCells c (n * size)) || b.any (·.block == c.block))
     | _ => pure false).run S s = .ok y s := by
   intro there
   cases there
   · exact ⟨_, rfl⟩
   · simp only [Bool.not_true, Bool.false_eq_true, if_false]
     split
     · rename_i c _ _
       obtain ⟨y, hy⟩ := holdsCells_run (S := S) c (n * size) s
       exact ⟨_, by simp only [Sem.run_bind, hy]; rfl⟩
     · exact ⟨_, rfl⟩
 cases b with
 | none => exact fin true
 | some a =>
   obtain ⟨y, hy⟩ := holdsCells_run (S := S) a (l * size) s
   obtain ⟨z, hz⟩ := fin (y && !(s.frozen? (a.add (l / 2 * size))))
   refine ⟨z, ?_⟩
   simp only [Sem.run_bind, hy, Result.andThen]
   exact hz
def appendOk (S : Program) (ts : Array TypeId) : Bool :=
 (match ts[0]? with | some t => elemZero S t | none => true) &&
 (match ts[1]? with | some t => (match S.underlying t with | some (.int _) => false | _ => true) | none => true)
def growTail (elem : TypeId) (size : Nat) (base : Option Addr) (l c n : Nat) (y : Value) : Sem Value := do
 let newCap <- choose (.appendCap (l + n) c elem)
 askRoom (newCap * (<- typeInfo elem).bytes)
 let old <- Builtin.firstCells size l (.slice base l c)
 let new <- Builtin.firstCells size n y
 let rest := Builtin.zeroCells (<- zeroValue elem).cells (newCap - (l + n))
 pure (Value.slice (some (<- newRow elem (old ++ new ++ rest))) (l + n) newCap)
theorem growTail_rel (H : Same S R F) {elem : TypeId} (hz : zeroOk S elem = true) (size : Nat) {b b' : Option Addr} {l c : Nat} (hb : VRel (Fp F) ρ (.slice b l c) (.slice b' l c)) (n : Nat) {y y' : Value} (hn : Vd y -> n = 0) (hy : VRel (Fp F) ρ y y') :
   SRel S R (Fp F) (QV F) ρ (growTail elem size b l c n y) (growTail elem size b' l c n y') := by
 unfold growTail
 refine SRel.bind (Q := fun _ a b => a = b) (.choose _ (fun _ _ h => by cases h) fun n => .pure rfl) ?_
 rintro σ1 h1 newCap _ rfl
 refine (typeInfo_rel H elem).bind ?_
 rintro σ2 h2 i _ ⟨rfl, _⟩
 refine (askRoom_rel _).bind fun σ3 h3 _ _ _ => ?_
 have le3 := Ren.le_trans (Ren.le_trans h1 h2) h3
 refine (firstCells_rel size l (fun ⟨_, e⟩ => by cases e; rfl) (hb.mono le3)).bind fun σ4 h4 o o' ho => ?_
 have le4 := Ren.le_trans le3 h4
 refine (firstCells_rel size n hn (hy.mono le4)).bind fun σ5 h5 w w' hw => ?_
 refine (zeroValue_rel H hz).bind ?_
 rintro σ6 h6 z _ ⟨rfl, hp⟩
 refine (newRow_rel elem ((((ho.mono h5).mono h6).append (hw.mono h6)).append (zeroCells_rel (flat1_cells hp) _))).bind fun _ _ _ _ ha => .pure' (.slice _ _ ha)
theorem huge_doom {α β : Type} {Q : Ren -> α -> β -> Prop} (size l n : Nat) (b : Option Addr) (x : Value) {u : String} {x' : Sem β} :
   SRel S R (Fp F) Q ρ (Builtin.mayShare size l n b x >>= fun y => if (!y) = true then (mark .noRoom >>= fun _ => (Go.unsupported (.resourceLimit u) : Sem α)) else Go.unsupported (.resourceLimit u)) x' := by
 refine .doom fun s => ?_
 obtain ⟨y, hy⟩ := mayShare_run (S := S) size l n b x s
 cases y
 · exact ⟨.unsupported (.resourceLimit u), s, by simp only [Sem.run_bind, hy, Result.andThen]; rfl, trivial⟩
 · exact ⟨.unsupported (.resourceLimit u), s, by simp only [Sem.run_bind, hy, Result.andThen]; rfl, trivial⟩
theorem append_rel (H : Same S R F) {ts : Array TypeId} (hz : appendOk S ts = true) (t0 : TypeId) {x x' : Array Value} (h : AVRel (Fp F) ρ x x') : SRel S R (Fp F) (QV F) ρ (Builtin.append_ ts t0 x) (Builtin.append_ ts t0 x') := by
 unfold appendOk at hz
 simp only [Bool.and_eq_true] at hz
 obtain ⟨hz, hi⟩ := hz
 unfold Builtin.append_
 cases ht : ts[0]? with
 | none => exact .stuck
 | some t =>
 rw [ht] at hz
 simp only at hz
 cases hx : x[0]? with
 | none => exact .stuck
 | some v =>
 have hi0 : 0 < x.size := (Array.getElem?_eq_some_iff.1 hx).1
 have hi0' : 0 < x'.size := h.1 ▸ hi0
 rw [Array.getElem?_eq_getElem hi0']
 have hv := h.2 0 _ _ hx (Array.getElem?_eq_getElem hi0')
 generalize x'[0] = v' at hv
 cases hy : x[1]? with
 | none => exact .stuck
 | some y =>
 have hi1 : 1 < x.size := (Array.getElem?_eq_some_iff.1 hy).1
 have hi1' : 1 < x'.size := h.1 ▸ hi1
 rw [Array.getElem?_eq_getElem hi1']
 have hyv := h.2 1 _ _ hy (Array.getElem?_eq_getElem hi1')
 generalize x'[1] = y' at hyv
 simp only
 refine (underlying_rel H t).bind ?_
 rintro σ hσ d _ ⟨rfl, hu⟩
 unfold elemZero at hz
 rw [hu] at hz
 cases d with
 | slice elem =>
   simp only at hz ⊢
   cases hv with
   | nilSlice sLen sCap =>
     refine (sizeOf_rel H elem).bind ?_
     rintro τ hτ size _ rfl
     have le : ρ.le τ := Ren.le_trans hσ hτ
     cases h1 : ts[1]? with
     | none =>
       simp only [pure_bind]
       simp only [Bool.false_eq_true, if_false, Bool.not_false, if_true, false_or]
       refine (lenOf_rel (hyv.mono le)).bind ?_
       rintro υ hυ n _ ⟨rfl, hv0⟩
       by_cases hn : sLen + n <= sCap
       · rw [if_pos hn, if_pos hn]
         refine (firstCells_rel size n hv0 ((hyv.mono le).mono hυ)).bind fun ι hι o o' ho => ?_
         exact .pure' (.nilSlice _ _)
       · rw [if_neg hn, if_neg hn]
         refine (typeInfo_rel H elem).bind ?_
         rintro ι hι i _ ⟨rfl, _⟩
         by_cases hp : ((sLen + n : Nat) : Int) > IntKind.i64.max /\ i.bytes = 0
         · rw [if_pos hp, if_pos hp]
           exact SRel.bind (Q := fun _ _ _ => False) (runtimePanic_doom (e := .error _) trivial) fun _ _ _ _ hq => hq.elim
         · rw [if_neg hp, if_neg hp]
           refine (typeInfo_rel H elem).bind ?_
           rintro κ hκ i _ ⟨rfl, _⟩
           have gt' := growTail_rel (S := S) (R := R) H hz size ((((VRel.nilSlice (F := Fp F)  sLen sCap).mono hυ).mono hι).mono hκ) n hv0 ((((hyv.mono le).mono hυ).mono hι).mono hκ)
           by_cases hh : Builtin.nextslicecap (sLen + n) sCap * i.bytes > 2 ^ 48
           · rw [if_pos hh, if_pos hh]
             exact SRel.bind (Q := fun _ _ _ => False) (huge_doom _ _ _ _ _) fun _ _ _ _ hq => hq.elim
           · rw [if_neg hh, if_neg hh]
             exact gt'
     | some t1 =>
       refine (underlying_rel H t1).bind ?_
       rintro τ2 hτ2 d2 _ ⟨rfl, hu1⟩
       rw [h1] at hi
       simp only [hu1] at hi
       have le : ρ.le τ2 := Ren.le_trans le hτ2
       simp only [pure_bind]
       split
       · simp at hi
       · skip
         simp only [Bool.false_eq_true, if_false, Bool.not_false, if_true, false_or]
         refine (lenOf_rel (hyv.mono le)).bind ?_
         rintro υ hυ n _ ⟨rfl, hv0⟩
         by_cases hn : sLen + n <= sCap
         · rw [if_pos hn, if_pos hn]
           refine (firstCells_rel size n hv0 ((hyv.mono le).mono hυ)).bind fun ι hι o o' ho => ?_
           exact .pure' (.nilSlice _ _)
         · rw [if_neg hn, if_neg hn]
           refine (typeInfo_rel H elem).bind ?_
           rintro ι hι i _ ⟨rfl, _⟩
           by_cases hp : ((sLen + n : Nat) : Int) > IntKind.i64.max /\ i.bytes = 0
           · rw [if_pos hp, if_pos hp]
             exact SRel.bind (Q := fun _ _ _ => False) (runtimePanic_doom (e := .error _) trivial) fun _ _ _ _ hq => hq.elim
           · rw [if_neg hp, if_neg hp]
             refine (typeInfo_rel H elem).bind ?_
             rintro κ hκ i _ ⟨rfl, _⟩
             have gt' := growTail_rel (S := S) (R := R) H hz size ((((VRel.nilSlice (F := Fp F)  sLen sCap).mono hυ).mono hι).mono hκ) n hv0 ((((hyv.mono le).mono hυ).mono hι).mono hκ)
             by_cases hh : Builtin.nextslicecap (sLen + n) sCap * i.bytes > 2 ^ 48
             · rw [if_pos hh, if_pos hh]
               exact SRel.bind (Q := fun _ _ _ => False) (huge_doom _ _ _ _ _) fun _ _ _ _ hq => hq.elim
             · rw [if_neg hh, if_neg hh]
               exact gt'
   | slice sLen sCap ha =>
     refine (sizeOf_rel H elem).bind ?_
     rintro τ hτ size _ rfl
     have le : ρ.le τ := Ren.le_trans hσ hτ
     cases h1 : ts[1]? with
     | none =>
       simp only [pure_bind]
       simp only [Bool.false_eq_true, if_false, Bool.not_false, if_true, false_or]
       refine (lenOf_rel (hyv.mono le)).bind ?_
       rintro υ hυ n _ ⟨rfl, hv0⟩
       by_cases hn : sLen + n <= sCap
       · rw [if_pos hn, if_pos hn]
         refine (firstCells_rel size n hv0 ((hyv.mono le).mono hυ)).bind fun ι hι o o' ho => ?_
         refine (storeCells_rel _ _ 0 (((((ha.mono le).mono hυ).mono hι)).add _) ho.toList).bind fun κ hκ _ _ _ => ?_
         exact .pure' (.slice _ _ (((((ha.mono le).mono hυ).mono hι)).mono hκ))
       · rw [if_neg hn, if_neg hn]
         refine (typeInfo_rel H elem).bind ?_
         rintro ι hι i _ ⟨rfl, _⟩
         by_cases hp : ((sLen + n : Nat) : Int) > IntKind.i64.max /\ i.bytes = 0
         · rw [if_pos hp, if_pos hp]
           exact SRel.bind (Q := fun _ _ _ => False) (runtimePanic_doom (e := .error _) trivial) fun _ _ _ _ hq => hq.elim
         · rw [if_neg hp, if_neg hp]
           refine (typeInfo_rel H elem).bind ?_
           rintro κ hκ i _ ⟨rfl, _⟩
           have gt' := growTail_rel (S := S) (R := R) H hz size ((((VRel.slice sLen sCap (ha.mono le)).mono hυ).mono hι).mono hκ) n hv0 ((((hyv.mono le).mono hυ).mono hι).mono hκ)
           by_cases hh : Builtin.nextslicecap (sLen + n) sCap * i.bytes > 2 ^ 48
           · rw [if_pos hh, if_pos hh]
             exact SRel.bind (Q := fun _ _ _ => False) (huge_doom _ _ _ _ _) fun _ _ _ _ hq => hq.elim
           · rw [if_neg hh, if_neg hh]
             exact gt'
     | some t1 =>
       refine (underlying_rel H t1).bind ?_
       rintro τ2 hτ2 d2 _ ⟨rfl, hu1⟩
       rw [h1] at hi
       simp only [hu1] at hi
       have le : ρ.le τ2 := Ren.le_trans le hτ2
       simp only [pure_bind]
       split
       · simp at hi
       · skip
         simp only [Bool.false_eq_true, if_false, Bool.not_false, if_true, false_or]
         refine (lenOf_rel (hyv.mono le)).bind ?_
         rintro υ hυ n _ ⟨rfl, hv0⟩
         by_cases hn : sLen + n <= sCap
         · rw [if_pos hn, if_pos hn]
           refine (firstCells_rel size n hv0 ((hyv.mono le).mono hυ)).bind fun ι hι o o' ho => ?_
           refine (storeCells_rel _ _ 0 (((((ha.mono le).mono hυ).mono hι)).add _) ho.toList).bind fun κ hκ _ _ _ => ?_
           exact .pure' (.slice _ _ (((((ha.mono le).mono hυ).mono hι)).mono hκ))
         · rw [if_neg hn, if_neg hn]
           refine (typeInfo_rel H elem).bind ?_
           rintro ι hι i _ ⟨rfl, _⟩
           by_cases hp : ((sLen + n : Nat) : Int) > IntKind.i64.max /\ i.bytes = 0
           · rw [if_pos hp, if_pos hp]
             exact SRel.bind (Q := fun _ _ _ => False) (runtimePanic_doom (e := .error _) trivial) fun _ _ _ _ hq => hq.elim
           · rw [if_neg hp, if_neg hp]
             refine (typeInfo_rel H elem).bind ?_
             rintro κ hκ i _ ⟨rfl, _⟩
             have gt' := growTail_rel (S := S) (R := R) H hz size ((((VRel.slice sLen sCap (ha.mono le)).mono hυ).mono hι).mono hκ) n hv0 ((((hyv.mono le).mono hυ).mono hι).mono hκ)
             by_cases hh : Builtin.nextslicecap (sLen + n) sCap * i.bytes > 2 ^ 48
             · rw [if_pos hh, if_pos hh]
               exact SRel.bind (Q := fun _ _ _ => False) (huge_doom _ _ _ _ _) fun _ _ _ _ hq => hq.elim
             · rw [if_neg hh, if_neg hh]
               exact gt'
   | void va va' =>
     refine (sizeOf_rel H elem).bind ?_
     rintro τ hτ size _ rfl
     have le : ρ.le τ := Ren.le_trans hσ hτ
     cases h1 : ts[1]? with
     | none =>
       simp only [pure_bind]
       simp only [Bool.false_eq_true, if_false, Bool.not_false, if_true, false_or]
       refine (lenOf_rel (hyv.mono le)).bind ?_
       rintro υ hυ n _ ⟨rfl, hv0⟩
       by_cases hn : 0 + n <= 0
       · rw [if_pos hn, if_pos hn]
         obtain rfl : n = 0 := by omega
         rcases firstCells0 size ((hyv.mono le).mono hυ) with ⟨e1, e2⟩ | ⟨u, e1⟩
         · rw [e1, e2]
           simp only [pure_bind]
           exact .pure' (.void _ _)
         · rw [e1]
           exact SRel.bind (Q := fun _ _ _ => False) (.stuck) fun _ _ _ _ hq => hq.elim
       · rw [if_neg hn, if_neg hn]
         refine (typeInfo_rel H elem).bind ?_
         rintro ι hι i _ ⟨rfl, _⟩
         by_cases hp : ((0 + n : Nat) : Int) > IntKind.i64.max /\ i.bytes = 0
         · rw [if_pos hp, if_pos hp]
           exact SRel.bind (Q := fun _ _ _ => False) (runtimePanic_doom (e := .error _) trivial) fun _ _ _ _ hq => hq.elim
         · rw [if_neg hp, if_neg hp]
           refine (typeInfo_rel H elem).bind ?_
           rintro κ hκ i _ ⟨rfl, _⟩
           have gt' := growTail_rel (S := S) (R := R) H hz size ((((VRel.void (F := Fp F) va va').mono hυ).mono hι).mono hκ) n hv0 ((((hyv.mono le).mono hυ).mono hι).mono hκ)
           by_cases hh : Builtin.nextslicecap (0 + n) 0 * i.bytes > 2 ^ 48
           · rw [if_pos hh, if_pos hh]
             exact SRel.bind (Q := fun _ _ _ => False) (huge_doom _ _ _ _ _) fun _ _ _ _ hq => hq.elim
           · rw [if_neg hh, if_neg hh]
             exact gt'
     | some t1 =>
       refine (underlying_rel H t1).bind ?_
       rintro τ2 hτ2 d2 _ ⟨rfl, hu1⟩
       rw [h1] at hi
       simp only [hu1] at hi
       have le : ρ.le τ2 := Ren.le_trans le hτ2
       simp only [pure_bind]
       split
       · simp at hi
       · skip
         simp only [Bool.false_eq_true, if_false, Bool.not_false, if_true, false_or]
         refine (lenOf_rel (hyv.mono le)).bind ?_
         rintro υ hυ n _ ⟨rfl, hv0⟩
         by_cases hn : 0 + n <= 0
         · rw [if_pos hn, if_pos hn]
           obtain rfl : n = 0 := by omega
           rcases firstCells0 size ((hyv.mono le).mono hυ) with ⟨e1, e2⟩ | ⟨u, e1⟩
           · rw [e1, e2]
             simp only [pure_bind]
             exact .pure' (.void _ _)
           · rw [e1]
             exact SRel.bind (Q := fun _ _ _ => False) (.stuck) fun _ _ _ _ hq => hq.elim
         · rw [if_neg hn, if_neg hn]
           refine (typeInfo_rel H elem).bind ?_
           rintro ι hι i _ ⟨rfl, _⟩
           by_cases hp : ((0 + n : Nat) : Int) > IntKind.i64.max /\ i.bytes = 0
           · rw [if_pos hp, if_pos hp]
             exact SRel.bind (Q := fun _ _ _ => False) (runtimePanic_doom (e := .error _) trivial) fun _ _ _ _ hq => hq.elim
           · rw [if_neg hp, if_neg hp]
             refine (typeInfo_rel H elem).bind ?_
             rintro κ hκ i _ ⟨rfl, _⟩
             have gt' := growTail_rel (S := S) (R := R) H hz size ((((VRel.void (F := Fp F) va va').mono hυ).mono hι).mono hκ) n hv0 ((((hyv.mono le).mono hυ).mono hι).mono hκ)
             by_cases hh : Builtin.nextslicecap (0 + n) 0 * i.bytes > 2 ^ 48
             · rw [if_pos hh, if_pos hh]
               exact SRel.bind (Q := fun _ _ _ => False) (huge_doom _ _ _ _ _) fun _ _ _ _ hq => hq.elim
             · rw [if_neg hh, if_neg hh]
               exact gt'
   | _ => exact .stuck
 | _ => exact .stuck
end
end Sim
end Go.Proofs.YthgelfnflafoiabGreat
namespace Go.Proofs.YthgelfnflafoiabGreat
namespace Sim
section
variable {S R : Program} {F : FuncId -> Bool} {ρ : Ren}
theorem AVRel.get? {x x' : Array Value} (h : AVRel (Fp F) ρ x x') (i : Nat) : ORel (Fp F) ρ x[i]? x'[i]? := by
 rcases Nat.lt_or_ge i x.size with hi | hi
 · have hi' : i < x'.size := h.1 ▸ hi
   exact .inr ⟨_, _, Array.getElem?_eq_getElem hi, Array.getElem?_eq_getElem hi', h.2 i _ _ (Array.getElem?_eq_getElem hi) (Array.getElem?_eq_getElem hi')⟩
 · exact .inl ⟨Array.getElem?_eq_none hi, Array.getElem?_eq_none (h.1 ▸ hi)⟩
theorem copy_rel (H : Same S R F) (ts : Array TypeId) (t0 : TypeId) {x x' : Array Value} (h : AVRel (Fp F) ρ x x') : SRel S R (Fp F) (QV F) ρ (Builtin.copy_ ts t0 x) (Builtin.copy_ ts t0 x') := by
 unfold Builtin.copy_
 cases ts[0]? with
 | none => exact .stuck
 | some t =>
 rcases h.get? 0 with ⟨h1, h2⟩ | ⟨v, v', h1, h2, hv⟩
 · rw [h1]; exact .stuck
 rcases h.get? 1 with ⟨h3, h4⟩ | ⟨y, y', h3, h4, hy⟩
 · rw [h1, h3]; exact .stuck
 rw [h1, h2, h3, h4]
 simp only
 refine (underlying_rel H t).bind ?_
 rintro σ hσ d _ ⟨rfl, _⟩
 cases d with
 | slice elem =>
   have go : ∀ {b b' : Option Addr} (l : Nat), ((b = none /\ b' = none) \/ ∃ a a', b = some a /\ b' = some a' /\ ARel ρ a a') -> SRel S R (Fp F) (QV F) σ
       (do
         let n := Nat.min (<- Builtin.lenOf y) l
         let cells <- Builtin.firstCells (<- sizeOf elem) n y
         if let some a := b then storeCells a cells.toList
         pure (goInt n))
       (do
         let n := Nat.min (<- Builtin.lenOf y') l
         let cells <- Builtin.firstCells (<- sizeOf elem) n y'
         if let some a := b' then storeCells a cells.toList
         pure (goInt n)) := by
     intro b b' l hb
     refine (lenOf_rel (hy.mono hσ)).bind ?_
     rintro σ1 h1 n _ ⟨rfl, hv0⟩
     refine (sizeOf_rel H elem).bind ?_
     rintro σ2 h2 m _ rfl
     refine (firstCells_rel m _ (fun h => by rw [hv0 h]; exact Nat.zero_min _) (((hy.mono hσ).mono h1).mono h2)).bind fun σ3 h3 o o' ho => ?_
     rcases hb with ⟨rfl, rfl⟩ | ⟨a, a', rfl, rfl, ha⟩
     · exact .pure' (.int _ _)
     · exact (storeCells_rel _ _ 0 ((((ha.mono hσ).mono h1).mono h2).mono h3) ho.toList).bind fun _ _ _ _ _ => .pure' (.int _ _)
   cases hv with
   | nilSlice l c => exact go l (.inl ⟨rfl, rfl⟩)
   | slice l c ha => exact go l (.inr ⟨_, _, rfl, rfl, ha⟩)
   | void va va' =>
     refine (lenOf_rel (hy.mono hσ)).bind ?_
     rintro σ1 h1 n _ ⟨rfl, hv0⟩
     refine (sizeOf_rel H elem).bind ?_
     rintro σ2 h2 m _ rfl
     rw [show Nat.min n 0 = 0 from Nat.min_zero n]
     rcases firstCells0 m (((hy.mono hσ).mono h1).mono h2) with ⟨e1, e2⟩ | ⟨u, e1⟩
     · rw [e1, e2]
       simp only [pure_bind]
       exact .pure' (.int _ _)
     · rw [e1]
       exact SRel.bind (Q := fun _ _ _ => False) (.stuck) fun _ _ _ _ hq => hq.elim
   | _ => exact .stuck
 | _ => exact .stuck
def clearOk (S : Program) (ts : Array TypeId) : Bool := match ts[0]? with | some t => elemZero S t | none => true
theorem clear_rel (H : Same S R F) {ts : Array TypeId} (hz : clearOk S ts = true) (t0 : TypeId) {x x' : Array Value} (h : AVRel (Fp F) ρ x x') : SRel S R (Fp F) (QV F) ρ (Builtin.clear_ ts t0 x) (Builtin.clear_ ts t0 x') := by
 unfold Builtin.clear_
 unfold clearOk at hz
 cases ht : ts[0]? with
 | none => exact .stuck
 | some t =>
 rcases h.get? 0 with ⟨h1, h2⟩ | ⟨v, v', h1, h2, hv⟩
 · rw [h1]; exact .stuck
 rw [h1, h2]
 simp only [ht] at hz ⊢
 refine (underlying_rel H t).bind ?_
 rintro σ hσ d _ ⟨rfl, hu⟩
 unfold elemZero at hz
 rw [hu] at hz
 have tup : ∀ σ, VRel (Fp F) σ (.tuple #[]) (.tuple #[]) := fun σ => .tuple rfl fun i v v' hv => by simp at hv
 cases hv with
 | nilSlice l c => cases d <;> exact .pure' (tup _)
 | void va va' => cases d <;> exact .pure' (tup _)
 | slice l c ha =>
   cases l with
   | zero => cases d <;> exact .pure' (tup _)
   | succ l =>
     cases d with
     | slice elem =>
       refine (zeroValue_rel H hz).bind ?_
       rintro τ hτ z _ ⟨rfl, hp⟩
       exact (storeCells_rel _ _ 0 ((ha.mono hσ).mono hτ) (zeroCells_rel (flat1_cells hp) _).toList).bind fun _ _ _ _ _ => .pure' (tup _)
     | _ => exact SRel.bind (Q := fun _ _ _ => False) (.stuck) fun _ _ _ _ hq => hq.elim
 | _ => cases d <;> exact SRel.bind (Q := fun _ _ _ => False) (.stuck) fun _ _ _ _ hq => hq.elim
theorem min2_rel {v v' y y' : Value} (h : VRel (Fp F) ρ v v') (hy : VRel (Fp F) ρ y y') : SRel S R (Fp F) (QV F) ρ (Builtin.min2 v y) (Builtin.min2 v' y') := by
 cases h <;> cases hy <;> first
   | exact .pure' (.int _ _)
   | exact .unsupported trivial
   | exact .stuck
   | exact SRel.bind (Q := fun _ a b => a = b) (.pure' rfl) (by rintro σ _ a _ rfl; exact SRel.bind (Q := fun _ a b => a = b) (by cases a <;> first | exact .pure' rfl | exact .stuck | exact .unsupported trivial) (by rintro σ _ b _ rfl; exact .pure' (.string _)))
theorem max2_rel {v v' y y' : Value} (h : VRel (Fp F) ρ v v') (hy : VRel (Fp F) ρ y y') : SRel S R (Fp F) (QV F) ρ (Builtin.max2 v y) (Builtin.max2 v' y') := by
 cases h <;> cases hy <;> first
   | exact .pure' (.int _ _)
   | exact .unsupported trivial
   | exact .stuck
   | exact SRel.bind (Q := fun _ a b => a = b) (.pure' rfl) (by rintro σ _ a _ rfl; exact SRel.bind (Q := fun _ a b => a = b) (by cases a <;> first | exact .pure' rfl | exact .stuck | exact .unsupported trivial) (by rintro σ _ b _ rfl; exact .pure' (.string _)))
theorem foldlM_rel {f : Value -> Value -> Sem Value} (hf : ∀ ρ v v' y y', VRel (Fp F) ρ v v' -> VRel (Fp F) ρ y y' -> SRel S R (Fp F) (QV F) ρ (f v y) (f v' y')) :
   ∀ (l l' : List Value) {ρ : Ren} {v v' : Value}, LRel (Fp F) ρ l l' -> VRel (Fp F) ρ v v' -> SRel S R (Fp F) (QV F) ρ (l.foldlM f v) (l'.foldlM f v')
 | [], [], _, _, _, _, hv => .pure' hv
 | [], _ :: _, _, _, _, h, _ => by have := h.1; simp at this
 | _ :: _, [], _, _, _, h, _ => by have := h.1; simp at this
 | x :: l, x' :: l', ρ, v, v', h, hv => by
   simp only [List.foldlM_cons]
   exact (hf ρ _ _ _ _ hv h.cons.1).bind fun σ hσ a a' ha => foldlM_rel hf l l' (h.cons.2.mono hσ) ha
theorem min_rel (ts : Array TypeId) (t0 : TypeId) {x x' : Array Value} (h : AVRel (Fp F) ρ x x') : SRel S R (Fp F) (QV F) ρ (Builtin.min_ ts t0 x) (Builtin.min_ ts t0 x') := by
 unfold Builtin.min_
 have hl := h.toList
 generalize x.toList = l at hl
 generalize x'.toList = l' at hl
 cases l with
 | nil => exact .stuck
 | cons v l =>
   cases l' with
   | nil => have := hl.1; simp at this
   | cons v' l' => exact foldlM_rel (fun ρ v v' y y' a b => min2_rel a b) l l' hl.cons.2 hl.cons.1
theorem max_rel (ts : Array TypeId) (t0 : TypeId) {x x' : Array Value} (h : AVRel (Fp F) ρ x x') : SRel S R (Fp F) (QV F) ρ (Builtin.max_ ts t0 x) (Builtin.max_ ts t0 x') := by
 unfold Builtin.max_
 have hl := h.toList
 generalize x.toList = l at hl
 generalize x'.toList = l' at hl
 cases l with
 | nil => exact .stuck
 | cons v l =>
   cases l' with
   | nil => have := hl.1; simp at this
   | cons v' l' => exact foldlM_rel (fun ρ v v' y y' a b => max2_rel a b) l l' hl.cons.2 hl.cons.1
end
end Sim
end Go.Proofs.YthgelfnflafoiabGreat
namespace Go.Proofs.YthgelfnflafoiabGreat
namespace Sim
section
variable {S R : Program} {F : FuncId → Bool} {ρ : Ren}
theorem intArith_rel (op : BinOp) (k : IntKind) (a b : Int) : SRel S R (Fp F) (QV F) ρ (Op.intArith op k a b) (Op.intArith op k a b) := by
 unfold Op.intArith
 cases op <;> first | exact .pure' (.int _ _) | exact .stuck
theorem intCmp_rel (op : BinOp) (a b : Int) : SRel S R (Fp F) (QV F) ρ (Op.intCmp op a b) (Op.intCmp op a b) := by
 unfold Op.intCmp
 cases op <;> first | exact .pure' (.bool _) | exact .stuck
theorem intBits_rel (op : BinOp) (k : IntKind) (a b : Int) : SRel S R (Fp F) (QV F) ρ (Op.intBits op k a b) (Op.intBits op k a b) := by
 unfold Op.intBits
 cases op <;> first | exact .pure' (.int _ _) | exact .stuck
theorem intDiv_rel (op : BinOp) (k : IntKind) (a b : Int) : SRel S R (Fp F) (QV F) ρ (Op.intDiv op k a b) (Op.intDiv op k a b) := by
 unfold Op.intDiv
 split
 · exact runtimePanic_doom (e := .error _) trivial
 · cases op <;> first | exact .pure' (.int _ _) | exact .stuck
theorem shift_rel (op : BinOp) (k : IntKind) (a : Int) (k' : IntKind) (b : Int) : SRel S R (Fp F) (QV F) ρ (Op.shift op k a k' b) (Op.shift op k a k' b) := by
 unfold Op.shift
 split
 · exact runtimePanic_doom (e := .error _) trivial
 · cases op <;> first | exact .pure' (.int _ _) | exact .stuck
theorem stringOp_rel (op : BinOp) (a b : ByteArray) : SRel S R (Fp F) (QV F) ρ (Op.stringOp op a b) (Op.stringOp op a b) := by
 unfold Op.stringOp
 cases op <;> first
   | exact .pure' (.bool _)
   | exact .stuck
   | (simp only; split; exact .unsupported trivial; exact .pure' (.string _))
theorem twoInts_rel (op : BinOp) (t : TypeId) (k k' : IntKind) (a b : Int) : SRel S R (Fp F) (QV F) ρ (binOp op t (.int k a) (.int k' b)) (binOp op t (.int k a) (.int k' b)) := by
 have go : SRel S R (Fp F) (QV F) ρ (if k ≠ k' then stuck "BinOp: operands of different kinds" else match op with
   | .add | .sub | .mul => Op.intArith op k a b
   | .quo | .rem => Op.intDiv op k a b
   | .and | .or | .xor | .andNot => Op.intBits op k a b
   | _ => Op.intCmp op a b) (if k ≠ k' then stuck "BinOp: operands of different kinds" else match op with
   | .add | .sub | .mul => Op.intArith op k a b
   | .quo | .rem => Op.intDiv op k a b
   | .and | .or | .xor | .andNot => Op.intBits op k a b
   | _ => Op.intCmp op a b) := by
   split
   · exact .stuck
   · cases op <;> first | exact intArith_rel _ _ _ _ | exact intDiv_rel _ _ _ _ | exact intBits_rel _ _ _ _ | exact intCmp_rel _ _ _
 cases op <;> first | exact shift_rel .shl k a k' b | exact shift_rel .shr k a k' b | exact go
theorem noPlaces (H : Same S R F) {a b : Addr} {γ δ : Type} {Q : Ren → γ → δ → Prop} (f : Nat × Nat → Sem γ) (x' : Sem δ) : SRel S R (Fp F) Q ρ (Op.twoPlaces a b >>= f) x' := by
 refine .doom fun s => ⟨.unsupported .addressObserved, s, ?_, trivial⟩
 unfold Op.twoPlaces
 have h : (a.block != b.block || decide (a.block ≥ S.globals.size)) = true := by simp [H.glob]
 have e : ∀ s, Sem.run S program s = .ok S s := fun _ => rfl
 simp only [Sem.run_bind, e, Result.andThen]
 rw [if_pos h]
 rfl
theorem addrSub_rel (H : Same S R F) {a b : Addr} (k : IntKind) (x' : Sem Value) : SRel S R (Fp F) (QV F) ρ (Op.addrSub k a b) x' := noPlaces H _ x'
theorem addrCmp_rel (H : Same S R F) {a b : Addr} (op : BinOp) (x' : Sem Value) : SRel S R (Fp F) (QV F) ρ (Op.addrCmp op a b) x' := noPlaces H _ x'
theorem byteOf_rel (H : Same S R F) {a a' : Addr} {e : Ent} (he : ρ a.block = some e) (ho : e.own = true) (hs : a.spot = none) (ha : a' = ⟨e.blk, a.off + e.sh, none⟩) : SRel S R (Fp F) (fun _ x y => x = y) ρ (byteOf a) (byteOf a') := by
 subst ha
 unfold byteOf
 rw [hs]
 refine (program_rel (Q := fun _ a b => a = S ∧ b = R) ⟨rfl, rfl⟩).bind ?_
 rintro σ1 h1 _ _ ⟨rfl, rfl⟩
 refine SRel.bind (Q := fun _ _ _ => True) ?_ fun σ2 h2 _ _ _ => ?_
 · unfold noView
   refine (viewAt_rel (h1 _ _ he)).bind ?_
   rintro σ _ _ _ ⟨rfl, rfl⟩
   exact .pure' trivial
 · refine (shape_rel (h2 _ _ (h1 _ _ he))).bind fun σ3 h3 x x' hx => ?_
   rcases hx with ⟨y, y', rfl, rfl, h4, _⟩ | ⟨rfl, rfl⟩
   · obtain ⟨rfl, h5⟩ := h4 ho
     obtain ⟨t, n⟩ := y
     simp only
     rw [← H.cellsOf, ← H.bytesOf, ← H.boc, h5, Nat.add_zero]
     split
     · exact .pure' rfl
     · cases byteOfCell _ _ t _ with
       | none => exact .stuck
       | some b => exact .pure' rfl
   · exact .stuck
theorem addrMod_rel (H : Same S R F) {a a' : Addr} (ha : ARel ρ a a') (k : IntKind) (n : Int) : SRel S R (Fp F) (QV F) ρ (Op.addrMod k a n) (Op.addrMod k a' n) := by
 obtain ⟨e, he, hs, ha'⟩ := ha
 unfold Op.addrMod
 have hb : a'.block = e.blk := by rw [ha']
 rw [hb]
 refine (shape_rel he).bind fun σ1 h1 x x' hx => ?_
 rcases hx with ⟨y, y', rfl, rfl, h4, h5⟩ | ⟨rfl, rfl⟩
 · obtain ⟨t, m⟩ := y
   obtain ⟨t', m'⟩ := y'
   simp only at h4 h5 ⊢
   cases ho : e.own with
   | true =>
     obtain ⟨h6, _⟩ := h4 ho
     simp only [Prod.mk.injEq] at h6
     obtain ⟨rfl, rfl⟩ := h6
     refine (typeInfo_rel H t).bind ?_
     rintro σ2 h2 i _ ⟨rfl, _⟩
     split
     · exact SRel.bind (Q := fun _ _ _ => False) (.unsupported trivial) fun _ _ _ _ hq => hq.elim
     · refine (byteOf_rel H (h2 _ _ (h1 _ _ he)) ho hs ha').bind ?_
       rintro σ3 h3 z _ rfl
       exact .pure' (.int _ _)
   | false =>
     rw [h5 ho]
     refine SRel.bind (Q := fun _ _ _ => False) (.doom fun s => ⟨.stuck "no such type", s, ?_, trivial⟩) fun _ _ _ _ hq => hq.elim
     unfold typeInfo
     have e : ∀ s, Sem.run S program s = .ok S s := fun _ => rfl
     simp only [Sem.run_bind, e, Result.andThen, H.noT]
     rfl
 · exact .unsupported trivial
def arithOk (S : Program) (t : TypeId) : Bool := match S.underlying t with | some .unsafePointer => false | _ => true
theorem addPtr_rel (H : Same S R F) {t : TypeId} (ht : arithOk S t = true) {p p' y y' : Value} (hp : VRel (Fp F) ρ p p') (hy : VRel (Fp F) ρ y y') :
   SRel S R (Fp F) (QV F) ρ (do if (← underlying t) matches .unsafePointer then movedPointer t p y else movedNumber t p y) (do if (← underlying t) matches .unsafePointer then movedPointer t p' y' else movedNumber t p' y') := by
 refine (underlying_rel H t).bind ?_
 rintro σ hσ d _ ⟨rfl, hu⟩
 unfold arithOk at ht
 rw [hu] at ht
 have := movedNumber_rel (S := S) (R := R) H t (hp.mono hσ) (hy.mono hσ)
 cases d <;> first | exact this | simp at ht
theorem arith_rel (H : Same S R F) {t : TypeId} (ht : arithOk S t = true) {op : BinOp} (hop : op ≠ .eql ∧ op ≠ .neq) {x x' y y' : Value} (hx : VRel (Fp F) ρ x x') (hy : VRel (Fp F) ρ y y') :
   SRel S R (Fp F) (QV F) ρ (binOp op t x y) (binOp op t x' y') := by
 have px := hx
 have py := hy
 cases hx with
 | int k a =>
   cases hy with
   | int k' b => exact twoInts_rel op t k k' a b
   | ptr hb => cases op <;> first | exact .unsupported trivial | exact movedNumber_rel H t py px | exact (behindNumber_rel hb).bind fun _ _ _ _ hp => addrMod_rel H hp.1 k _ | exact absurd rfl hop.1 | exact absurd rfl hop.2
   | nilPtr => cases op <;> first | exact .unsupported trivial | exact movedNumber_rel H t py px | exact absurd rfl hop.1 | exact absurd rfl hop.2
   | _ => cases op <;> first | exact .stuck | exact absurd rfl hop.1 | exact absurd rfl hop.2
 | string a =>
   cases hy with
   | string b =>
     have st := fun o => stringOp_rel (S := S) (R := R) (F := F) (ρ := ρ) o a b
     cases op with
     | eql => exact absurd rfl hop.1
     | neq => exact absurd rfl hop.2
     | add => exact st .add
     | sub => exact st .sub
     | mul => exact st .mul
     | quo => exact st .quo
     | rem => exact st .rem
     | and => exact st .and
     | or => exact st .or
     | xor => exact st .xor
     | shl => exact st .shl
     | shr => exact st .shr
     | andNot => exact st .andNot
     | lss => exact st .lss
     | leq => exact st .leq
     | gtr => exact st .gtr
     | geq => exact st .geq
   | _ => cases op <;> first | exact .stuck | exact .unsupported trivial | exact absurd rfl hop.1 | exact absurd rfl hop.2
 | ptr ha =>
   cases hy with
   | int k b =>
     cases op <;> first
       | exact .unsupported trivial
       | exact addPtr_rel H ht px py
       | exact movedNumber_rel H t px (.int k (-b))
       | exact (behindNumber_rel ha).bind fun _ _ _ _ hp => addrMod_rel H hp.1 k _
       | exact absurd rfl hop.1
       | exact absurd rfl hop.2
   | ptr hb =>
     cases op <;> first
       | exact .unsupported trivial
       | exact (behindNumber_rel ha).bind fun _ h1 _ _ hp => (behindNumber_rel (hb.mono h1)).bind fun _ _ _ _ hq => addrSub_rel H .u64 _
       | exact (behindNumber_rel ha).bind fun _ h1 _ _ hp => (behindNumber_rel (hb.mono h1)).bind fun _ _ _ _ hq => addrCmp_rel H _ _
       | exact absurd rfl hop.1
       | exact absurd rfl hop.2
   | _ => cases op <;> first | exact .unsupported trivial | exact absurd rfl hop.1 | exact absurd rfl hop.2
 | nilPtr =>
   cases hy with
   | int k b =>
     cases op <;> first
       | exact .unsupported trivial
       | exact addPtr_rel H ht px py
       | exact movedNumber_rel H t px (.int k (-b))
       | exact absurd rfl hop.1
       | exact absurd rfl hop.2
   | _ => cases op <;> first | exact .unsupported trivial | exact absurd rfl hop.1 | exact absurd rfl hop.2
 | _ => cases hy <;> cases op <;> first | exact .stuck | exact .unsupported trivial | exact absurd rfl hop.1 | exact absurd rfl hop.2
end
end Sim
end Go.Proofs.YthgelfnflafoiabGreat
namespace Go.Proofs.YthgelfnflafoiabGreat
namespace Sim
section
variable {S R : Program} {F : FuncId → Bool} {ρ : Ren}
def intOk (S : Program) (t : TypeId) : Bool :=
 (match S.underlying t with | some (.int _) => true | _ => false) && (match S.info? t with | some i => (match i.desc with | .named n _ => n != "sync.copyChecker" | _ => true) | none => true)
abbrev QB : Ren → Bool → Bool → Prop := fun _ a b => a = b
theorem equalInt_rel (H : Same S R F) {t : TypeId} (ht : intOk S t = true) (d : Nat) {x x' y y' : Value} (hx : VRel (Fp F) ρ x x') (hy : VRel (Fp F) ρ y y') :
   SRel S R (Fp F) QB ρ (Op.equalIn (d + 1) t x y) (Op.equalIn (d + 1) t x' y') := by
 unfold Op.equalIn
 refine (underlying_rel H t).bind ?_
 rintro σ hσ dd _ ⟨rfl, hu⟩
 unfold intOk at ht
 simp only [Bool.and_eq_true] at ht
 obtain ⟨h1, h2⟩ := ht
 rw [hu] at h1
 cases dd with
 | int k =>
   clear h1
   have px := hx.mono hσ
   have py := hy.mono hσ
   clear hx hy
   cases px with
   | int k1 n =>
     cases py with
     | int k2 m => simp only; split; exact .pure' rfl; exact .stuck
     | ptr hb =>
       cases n with
       | ofNat n =>
         cases n with
         | zero => exact .pure' rfl
         | succ n => exact .unsupported trivial
       | negSucc n => exact .unsupported trivial
     | nilPtr =>
       cases n with
       | ofNat n =>
         cases n with
         | zero => exact .unsupported trivial
         | succ n => exact .unsupported trivial
       | negSucc n => exact .unsupported trivial
     | _ => exact .stuck
   | ptr ha =>
     cases py with
     | int k2 n =>
       cases n with
       | ofNat n =>
         cases n with
         | zero => exact .pure' rfl
         | succ n => exact .unsupported trivial
       | negSucc n => exact .unsupported trivial
     | ptr hb =>
       refine (behindNumber_rel ha).bind fun σ1 h1 p p' hp => ?_
       refine (behindNumber_rel (hb.mono h1)).bind fun σ2 h2' q q' hq => ?_
       refine .doom fun s => ⟨.unsupported .addressObserved, s, ?_, trivial⟩
       have e : ∀ s, Sem.run S program s = .ok S s := fun _ => rfl
       have g : (p.1.block == q.1.block && decide (p.1.block < S.globals.size)) = false := by simp [H.glob]
       simp only [Sem.run_bind, e, Result.andThen, g, Bool.false_eq_true, if_false]
       unfold typeInfo
       simp only [Sem.run_bind, e, Result.andThen]
       have hi : ∃ i, S.info? t = some i := by
         unfold Program.underlying at hu
         cases hi : S.info? t with
         | none => rw [hi] at hu; cases hu
         | some i => exact ⟨i, rfl⟩
       obtain ⟨i, hi⟩ := hi
       rw [hi] at h2 ⊢
       simp only [Sem.run_pure] at h2 ⊢
       split
       · rename_i hd
         rw [hd] at h2
         simp at h2
       · rfl
     | _ => exact .unsupported trivial
   | nilPtr => cases py <;> exact .unsupported trivial
   | _ => cases py <;> first | exact .stuck | exact .unsupported trivial
 | _ => simp at h1
theorem forIn_rel {α γ : Type} : ∀ (l : List α) (f f' : α → γ → Sem (ForInStep γ)) (g : γ) (ρ : Ren), (∀ x ∈ l, ∀ g σ, ρ.le σ → SRel S R (Fp F) (fun _ a b => a = b) σ (f x g) (f' x g)) → SRel S R (Fp F) (fun _ a b => a = b) ρ (forIn l g f) (forIn l g f')
 | [], f, f', g, ρ, _ => .pure' rfl
 | x :: l, f, f', g, ρ, h => by
   simp only [List.forIn_cons]
   refine (h x (by simp) g ρ (Ren.le_refl _)).bind ?_
   rintro σ hσ r _ rfl
   cases r with
   | done b => exact .pure' rfl
   | «yield» b => exact forIn_rel l f f' b σ fun y hy g τ hτ => h y (by simp [hy]) g τ (Ren.le_trans hσ hτ)
def eqOk (S : Program) (t : TypeId) : Bool := !S.eqGuardType S.depth t && match S.underlying t with
 | some .bool | some .string | some (.slice _) => true
 | some (.int _) => intOk S t
 | some (.struct fs) => !S.stoodInHeld t && fs.all fun f => intOk S f.type
 | _ => false
theorem equalTop_rel (H : Same S R F) {t : TypeId} (ht : eqOk S t = true) (d : Nat) {x x' y y' : Value} (hx : VRel (Fp F) ρ x x') (hy : VRel (Fp F) ρ y y') :
   SRel S R (Fp F) QB ρ (Op.equalIn (d + 2) t x y) (Op.equalIn (d + 2) t x' y') := by
 have ht0 := ht
 unfold eqOk at ht
 rw [Bool.and_eq_true] at ht
 replace ht := ht.2
 cases hu : S.underlying t with
 | none => rw [hu] at ht; simp at ht
 | some dd =>
 rw [hu] at ht
 cases dd with
 | int k => exact equalInt_rel H ht (d + 1) hx hy
 | bool =>
   unfold Op.equalIn
   refine (underlying_rel H t).bind ?_
   rintro σ hσ dd _ ⟨rfl, hu'⟩
   rw [hu] at hu'; cases hu'
   cases hx <;> cases hy <;> first | exact .pure' rfl | exact .stuck
 | string =>
   unfold Op.equalIn
   refine (underlying_rel H t).bind ?_
   rintro σ hσ dd _ ⟨rfl, hu'⟩
   rw [hu] at hu'; cases hu'
   cases hx <;> cases hy <;> first | exact .pure' rfl | exact .stuck
 | slice e =>
   unfold Op.equalIn
   refine (underlying_rel H t).bind ?_
   rintro σ hσ dd _ ⟨rfl, hu'⟩
   rw [hu] at hu'; cases hu'
   cases hx <;> cases hy <;> first | exact .pure' rfl | exact .stuck
 | struct fs =>
   unfold Op.equalIn
   refine (underlying_rel H t).bind ?_
   rintro σ hσ dd _ ⟨rfl, hu'⟩
   rw [hu] at hu'; cases hu'
   simp only [Bool.and_eq_true, Bool.not_eq_true'] at ht
   obtain ⟨h1, h3⟩ := ht
   have px := hx.mono hσ
   have py := hy.mono hσ
   clear hx hy
   cases px with
   | agg a1 a2 =>
     cases py with
     | agg b1 b2 =>
       simp only
       refine (program_rel (Q := fun _ a b => a = S ∧ b = R) ⟨rfl, rfl⟩).bind ?_
       rintro τ hτ _ _ ⟨rfl, rfl⟩
       rw [← H.held, h1]
       simp only [Bool.false_eq_true, if_false]
       rw [← Array.forIn_toList, ← Array.forIn_toList]
       refine (forIn_rel fs.toList _ _ _ τ fun f hf g υ hυ => ?_).bind ?_
       · split
         · refine (part_rel H f.type (AVRel.mono (Ren.le_trans hτ hυ) ⟨a1, a2⟩) f.offset).bind fun σ1 h1 u u' hu1 => ?_
           refine (part_rel H f.type (AVRel.mono (Ren.le_trans (Ren.le_trans hτ hυ) h1) ⟨b1, b2⟩) f.offset).bind fun σ2 h2 v v' hv1 => ?_
           have hi : intOk _ f.type = true := Array.all_eq_true_iff_forall_mem.1 h3 f (by simpa using hf)
           refine (equalInt_rel H hi d (hu1.mono h2) hv1).bind ?_
           rintro σ3 _ r _ rfl
           cases r <;> exact .pure' rfl
         · exact .pure' rfl
       · rintro υ _ r _ rfl
         obtain ⟨r, u⟩ := r
         cases r <;> exact .pure' rfl
     | _ => exact .stuck
   | _ => cases py <;> exact .stuck
 | _ => simp at ht
theorem equal_rel (H : Same S R F) {t : TypeId} (ht : eqOk S t = true) {x x' y y' : Value} (hx : VRel (Fp F) ρ x x') (hy : VRel (Fp F) ρ y y') :
   SRel S R (Fp F) QB ρ (Op.equal t x y) (Op.equal t x' y') := equalTop_rel H ht 9998 hx hy
def binOk (S : Program) (op : BinOp) (t : TypeId) : Bool := match op with
 | .eql | .neq => eqOk S t
 | _ => arithOk S t
theorem eql_rel (H : Same S R F) {t : TypeId} (ht : eqOk S t = true) {x x' y y' : Value} (hx : VRel (Fp F) ρ x x') (hy : VRel (Fp F) ρ y y') :
   SRel S R (Fp F) (QV F) ρ (binOp .eql t x y) (binOp .eql t x' y') := by
 have go : SRel S R (Fp F) (QV F) ρ (do pure (.bool (← Op.equal t x y))) (do pure (.bool (← Op.equal t x' y'))) := by
   refine (equal_rel H ht hx hy).bind ?_
   rintro σ _ a _ rfl
   exact .pure' (.bool _)
 cases hx with
 | int k a =>
   cases hy with
   | int k' b => exact twoInts_rel .eql t k k' a b
   | _ => exact go
 | string a =>
   cases hy with
   | string b => exact stringOp_rel .eql a b
   | _ => exact go
 | _ => cases hy <;> exact go
theorem neq_rel (H : Same S R F) {t : TypeId} (ht : eqOk S t = true) {x x' y y' : Value} (hx : VRel (Fp F) ρ x x') (hy : VRel (Fp F) ρ y y') :
   SRel S R (Fp F) (QV F) ρ (binOp .neq t x y) (binOp .neq t x' y') := by
 have go : SRel S R (Fp F) (QV F) ρ (do pure (.bool (!(← Op.equal t x y)))) (do pure (.bool (!(← Op.equal t x' y')))) := by
   refine (equal_rel H ht hx hy).bind ?_
   rintro σ _ a _ rfl
   exact .pure' (.bool _)
 cases hx with
 | int k a =>
   cases hy with
   | int k' b => exact twoInts_rel .neq t k k' a b
   | _ => exact go
 | string a =>
   cases hy with
   | string b => exact stringOp_rel .neq a b
   | _ => exact go
 | _ => cases hy <;> exact go
theorem binOp_rel (H : Same S R F) {op : BinOp} {t : TypeId} (ht : binOk S op t = true) {x x' y y' : Value} (hx : VRel (Fp F) ρ x x') (hy : VRel (Fp F) ρ y y') :
   SRel S R (Fp F) (QV F) ρ (binOp op t x y) (binOp op t x' y') := by
 cases op with
 | eql => exact eql_rel H ht hx hy
 | neq => exact neq_rel H ht hx hy
 | _ => exact arith_rel H ht ⟨by simp, by simp⟩ hx hy
theorem guard_rel (c : Bool) {u : String} {x x' : Sem Bool} (h : SRel S R (Fp F) QB ρ x x') :
   SRel S R (Fp F) (fun _ _ _ => True) ρ (if c = true then (pure () : Sem Unit) else x >>= fun r => if r = true then Go.unsupported (.noEntry u) else pure ()) (if c = true then (pure () : Sem Unit) else x' >>= fun r => if r = true then Go.unsupported (.noEntry u) else pure ()) := by
 cases c
 · refine h.bind ?_
   rintro σ _ r _ rfl
   cases r
   · exact .pure' trivial
   · exact .unsupported trivial
 · exact .pure' trivial
theorem eqGuard_rel (H : Same S R F) {op : BinOp} {t : TypeId} (ht : binOk S op t = true) (a b : Operand) {x x' y y' : Value} (hx : VRel (Fp F) ρ x x') (hy : VRel (Fp F) ρ y y') :
   SRel S R (Fp F) (fun _ _ _ => True) ρ (eqGuard op t a b x y) (eqGuard op t a b x' y') := by
 have main : op = .eql ∨ op = .neq → SRel S R (Fp F) (fun _ _ _ => True) ρ (eqGuard op t a b x y) (eqGuard op t a b x' y') := by
   intro ho
   have he : eqOk S t = true := by rcases ho with rfl | rfl <;> exact ht
   unfold eqGuard
   have hg : S.eqGuardType S.depth t = false := by
     unfold eqOk at he
     simp only [Bool.and_eq_true, Bool.not_eq_true'] at he
     exact he.1
   have hi : ∀ ms, S.underlying t ≠ some (.interface ms) := by
     intro ms hu
     unfold eqOk at he
     rw [hu] at he
     simp at he
   have nil : SRel S R (Fp F) QB ρ (Op.eqGuardIn Op.maxDepth t .nilIface .nilIface) (Op.eqGuardIn Op.maxDepth t .nilIface .nilIface) := by
     show SRel S R (Fp F) QB ρ (Op.eqGuardIn (9999 + 1) t .nilIface .nilIface) (Op.eqGuardIn (9999 + 1) t .nilIface .nilIface)
     unfold Op.eqGuardIn
     refine (underlying_rel H t).bind ?_
     rintro σ hσ d _ ⟨rfl, hu⟩
     cases d <;> first | exact .pure' rfl | exact absurd hu (hi _)
   rcases ho with rfl | rfl
   all_goals
     simp only [Bool.not_true, Bool.false_eq_true, if_false]
     cases hx with
     | nilIface =>
       cases hy with
       | nilIface =>
         exact guard_rel _ nil
       | _ => exact .pure' trivial
     | agg =>
       cases hy with
       | agg =>
         simp only
         refine (program_rel (Q := fun _ a b => a = S ∧ b = R) ⟨rfl, rfl⟩).bind ?_
         rintro σ _ _ _ ⟨rfl, rfl⟩
         refine (program_rel (Q := fun _ a b => a = _ ∧ b = _) ⟨rfl, rfl⟩).bind ?_
         rintro τ _ _ _ ⟨rfl, rfl⟩
         rw [← H.eqg, hg]
         exact .pure' trivial
       | _ => exact .pure' trivial
     | _ => cases hy <;> exact .pure' trivial
 cases op with
 | eql => exact main (.inl rfl)
 | neq => exact main (.inr rfl)
 | _ => exact .pure' trivial
theorem unary_rel (op : UnOp) {x x' : Value} (hx : VRel (Fp F) ρ x x') : SRel S R (Fp F) (QV F) ρ (Op.unary op x) (Op.unary op x') := by
 cases op <;> cases hx <;> first
   | exact .pure' (.bool _)
   | exact intArith_rel .sub _ 0 _
   | exact intBits_rel .xor _ _ _
   | exact .stuck
   | exact .unsupported trivial
def intT (S : Program) (t : TypeId) : Bool := match S.underlying t with | some (.int _) => true | _ => false
theorem convert_rel (H : Same S R F) {s d : TypeId} (hs : intT S s = true) (hd : intT S d = true) {x x' : Value} (hx : VRel (Fp F) ρ x x') : SRel S R (Fp F) (QV F) ρ (convert s d x) (convert s d x') := by
 unfold convert
 refine (underlying_rel H s).bind ?_
 rintro σ hσ a _ ⟨rfl, hu⟩
 refine (underlying_rel H d).bind ?_
 rintro τ hτ b _ ⟨rfl, hv⟩
 unfold intT at hs hd
 rw [hu] at hs
 rw [hv] at hd
 cases a with
 | int k =>
   cases b with
   | int k' =>
     cases hx <;> first
       | exact .pure' (.int _ _)
       | exact .unsupported trivial
   | _ => simp at hd
 | _ => simp at hs
end
end Sim
end Go.Proofs.YthgelfnflafoiabGreat
