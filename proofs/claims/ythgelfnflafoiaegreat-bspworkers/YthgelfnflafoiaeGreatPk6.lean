/-
  Several texts in one.
-/
import Derived.WalkKit
import Derived.WalkSpells
import Derived.WalkLawsBesides
import Derived.Deep.QuietTactic
import Derived.BigQuiet
import Derived.Deep.RegionWith
import Derived.Deep.RegionHeld3
import Derived.Deep.AppendLies
import Derived.ProofKit
import Derived.OpenShut
import Derived.ChangeOld
import Derived.Deep.SlicePairs
import Derived.Conc.LeavingOf
import Derived.Conc.Holds
import Derived.Test.YthgelfnflafoiaeGreatPk5
namespace Go.Proofs.YthgelfnflafoiaeGreat
namespace Sim
open Go.Conc (base)
section
variable {a : Act} {s : World}
theorem q_move0 : (execOp a.eval (op1 (some 10) (.move (.const (.int .i64 0))) 3 #[])).run Seq.prog s = .ok (.value (.int .i64 0)) s := by
 unfold execOp
 simp only [op1]
 simp [go_sem, Act.eval]
theorem q_lss {i n : Int} (h1 : a.eval (.tmp 10) = .int .i64 i) (h2 : a.eval (.tmp 2) = .int .i64 n) :
   (execOp a.eval (op1 (some 11) (.binOp .lss 3 (.tmp 10) (.tmp 2) 3) 4 #[])).run Seq.prog s = .ok (.value (.bool (decide (i < n)))) s := by
 unfold execOp
 simp only [op1, h1, h2]
 simp [go_sem]
theorem q_call {x y z u : Value} (h0 : a.eval (.tmp 0) = x) (h1 : a.eval (.tmp 1) = y) (h2 : a.eval (.tmp 10) = z) (h3 : a.eval (.tmp 2) = u) :
   (execOp a.eval (op1 (some 12) (.call { callee := .value (.func 56), args := #[.tmp 0, .tmp 1, .tmp 10, .tmp 2], argTypes := #[77, 79, 3, 3] }) 77 #[])).run Seq.prog s = .ok (.enter 56 #[x, y, z, u]) s := by
 unfold execOp
 simp only [op1]
 simp [go_sem, Act.eval, <- h0, <- h1, <- h2, <- h3]
theorem q_index {B i n : Nat} (h0 : a.eval (.tmp 3) = .slice (some ⟨B, 0, none⟩) n n) (h1 : a.eval (.tmp 10) = .int .i64 i) (hi : i < n) :
   (execOp a.eval (op1 (some 13) (.indexAddr 82 (.tmp 3) (.tmp 10)) 3 #[])).run Seq.prog s = .ok (.value (.pointer (some ⟨B, i, none⟩))) s := by
 unfold execOp
 simp only [op1, h0, h1]
 simp [go_sem, hi]
theorem q_put {B i : Nat} {sa : Option Addr} {sl sc : Nat} {u : Value} (h0 : a.eval (.tmp 13) = .pointer (some ⟨B, i, none⟩)) (h1 : a.eval (.tmp 12) = .slice sa sl sc) (hc : s.cell? ⟨B, i, none⟩ = some u) (hf : s.frozen? ⟨B, i, none⟩ = false) :
   (execOp a.eval (op1 none (.store 77 (.tmp 13) (.tmp 12)) 3 #[])).run Seq.prog s = .ok .skip (s.setCell ⟨B, i, none⟩ (.slice sa sl sc)) := by
 unfold execOp
 simp only [op1, h0, h1]
 simp [go_sem, hc, hf]
theorem q_add {i : Nat} (h1 : a.eval (.tmp 10) = .int .i64 i) (hi : i <= 64) :
   (execOp a.eval (op1 (some 14) (.binOp .add 3 (.tmp 10) (.const (.int .i64 1)) 3) 3 #[])).run Seq.prog s = .ok (.value (.int .i64 ((i + 1 : Nat) : Int))) s := by
 have hwr : IntKind.i64.wrap ((i : Int) + 1) = (i : Int) + 1 := by rw [IntKind.wrap_i64]; omega
 unfold execOp
 simp only [op1, h1]
 simp [go_sem, Act.eval, hwr]
theorem q_mv {z : Value} (h1 : a.eval (.tmp 14) = z) :
   (execOp a.eval (op1 (some 10) (.move (.tmp 14)) 3 #[])).run Seq.prog s = .ok (.value z) s := by
 unfold execOp
 simp only [op1, h1]
 simp [go_sem]
set_option maxRecDepth 20000 in
theorem q_make {n : Nat} (h1 : a.eval (.tmp 2) = .int .i64 n) (hn : n <= 64) :
   (execOp a.eval (op1 (some 3) (.makeSlice 82 (.tmp 2) (.tmp 2)) 82 #[])).run Seq.prog s = .ok (.value (.slice (some ⟨s.heap.size, 0, none⟩) n n)) (s.alloc (.cells (madeCells #[.slice none 0 0] n) 77)) := by
 have eb : Tryz.t77.bytes = 24 := by kernel_rfl
 have hm := run_make (P := Seq.prog) s 82 77 Tryz.t77 (.slice none 0 0) (by rw [Seq.pu]; exact Tryz.underlying82) (by rw [Seq.tb]; exact Tryz.type77) (by kernel_rfl) .i64 .i64 (n : Int) (n : Int) (by omega) (by omega) (by rw [eb]; omega) (by omega)
 have es : Tryz.t77.size = 1 := by kernel_rfl
 rw [es] at hm
 unfold execOp
 simp only [op1, h1]
 simp [go_sem, hm, Value.cells]
end
end Sim
end Go.Proofs.YthgelfnflafoiaeGreat
namespace Go.Proofs.YthgelfnflafoiaeGreat
namespace Sim
open Go.Conc (base)
def ops6 : Array Oper := #[op1 (some 12) (.call { callee := .value (.func 56), args := #[.tmp 0, .tmp 1, .tmp 10, .tmp 2], argTypes := #[77, 79, 3, 3] }) 77 #[],
 op1 (some 13) (.indexAddr 82 (.tmp 3) (.tmp 10)) 3 #[], op1 none (.store 77 (.tmp 13) (.tmp 12)) 3 #[],
 op1 (some 14) (.binOp .add 3 (.tmp 10) (.const (.int .i64 1)) 3) 3 #[], op1 (some 10) (.move (.tmp 14)) 3 #[]]
def codeL : Code := .seq (.region 5 #[op1 (some 11) (.binOp .lss 3 (.tmp 10) (.tmp 2) 3) 4 #[]] false) (.cond (.tmp 11) (.region 6 ops6 false) (.exit 1))
def tdL : List Item := [.code codeL, .inLoop codeL, .inBlock 1, .code .ret]
def aL (x y : Value) (n b B : Nat) (i : Nat) (u1 u2 u3 u4 : Value) : Act := ⟨#[x, y, .int .i64 n, .slice (some ⟨B, 0, none⟩) n n, .pointer (some ⟨b, 0, none⟩), .int .i64 0, .bool false, undef, undef, undef, .int .i64 i, u1, u2, u3, u4], []⟩
def wqM (s : World) (n : Nat) : World := (wq3 s).alloc (.cells (madeCells #[.slice none 0 0] n) 77)
theorem q_begin {x y : Value} {n : Nat} {cs : List Frame} (s : World) (hn : n <= 64) (hs : s.tape s.drawn (.order 39 1) = 0) :
   GRun Seq.prog (Frame.enter Seq.prog 39 #[x, y, .int .i64 n] .normal :: cs) s (bq.at (aL x y n s.heap.size (wq3 s).heap.size 0 undef undef undef undef) tdL :: cs) (wqM s n) := by
 rw [enterq]
 refine .head (g_seq _ _) ?_
 refine .head (g_region _ _) ?_
 refine .head (g_value rfl rfl (q_alloc _ _)) ?_
 refine .head (g_pop _) ?_
 refine .head (g_seq _ _) ?_
 refine .head (g_draw _ _) ?_
 rw [show (wq1 s).tape (wq1 s).drawn (.order bq.fn 1) = 0 from hs]
 rw [show (#[op1 (some 5) (.load 3 (.tmp 4)) 3 #[], op1 none (.store 3 (.tmp 4) (.const (.int .i64 1))) 3 #[]] : Array Oper) = opsq from rfl, sched0]
 refine .head (g_value rfl rfl (q_load (r := s.heap.size) (n := 0) rfl (wq2_cell s))) ?_
 refine .head (g_none (s' := wq3 s) rfl rfl (q_store (r := s.heap.size) rfl (wq2_cell s) (wq2_frozen s))) ?_
 refine .head (g_pop _) ?_
 refine .head (g_seq _ _) ?_
 refine .head (g_region _ _) ?_
 refine .head (g_value rfl rfl (q_eq (n := 0) rfl)) ?_
 refine .head (g_pop _) ?_
 refine .head (g_cond _ _ _ (v := false) rfl) ?_
 refine .head (g_seq _ _) ?_
 refine .head (g_region _ _) ?_
 refine .head (g_value rfl rfl (q_make (n := n) rfl hn)) ?_
 refine .head (g_value rfl rfl q_move0) ?_
 refine .head (g_pop _) ?_
 refine .head (g_seq _ _) ?_
 refine .head (g_block _ _) ?_
 refine .head (g_loop _) ?_
 exact .refl _ _ _
theorem g_back {P : Program} {b fr : Frame} {a : Act} {k : List Item} {cs : List Frame} {s s' : World} {ops : Array Oper} {i : Nat} {rest : List Nat} {o : Oper} {fn : Func} {v : Value} (hm : fr.mode = .returning) (hf : P.funcs[fr.fn]? = some fn) (ho : ops[i]? = some o) (hr : (results fn fr.tmps).run P s = .ok v s') :
   (gsem P (fr :: b.at a (.inRegion ops (i :: rest) :: k) :: cs)).run P s = .ok (b.at (a.put o.dst v) (.inRegion ops rest :: k) :: cs) s' := by
 have hfin : (b.at a (.inRegion ops (i :: rest) :: k)).finish v = b.at (a.put o.dst v) (.inRegion ops rest :: k) := by rw [Frame.finish_at, ho]; rfl
 unfold gsem
 simp only [hm, hf]
 show ((results fn fr.tmps).bind fun v => Sem.pure ((b.at a (.inRegion ops (i :: rest) :: k)).finish v :: cs)).run P s = _
 rw [Sem.run_bind', hr, <- hfin]
 rfl
theorem q_round {x y : Value} {n b B i m : Nat} {u1 u2 u3 u4 u : Value} {cs : List Frame} {σ σ1 σ2 : World} {fr : Frame} {fn : Func} {sa : Option Addr} {sl sc : Nat} (hi : i < n) (hn : n <= 64)
   (hg : giter Seq.prog m [Frame.enter Seq.prog 56 #[x, y, .int .i64 i, .int .i64 n] .normal] σ = some ([fr], σ1)) (hm : fr.mode = .returning) (hf : Seq.prog.funcs[fr.fn]? = some fn) (hr : (results fn fr.tmps).run Seq.prog σ1 = .ok (.slice sa sl sc) σ2)
   (hc : σ2.cell? ⟨B, i, none⟩ = some u) (hz : σ2.frozen? ⟨B, i, none⟩ = false) :
   GRun Seq.prog (bq.at (aL x y n b B i u1 u2 u3 u4) tdL :: cs) σ (bq.at (aL x y n b B (i + 1) (.bool true) (.slice sa sl sc) (.pointer (some ⟨B, i, none⟩)) (.int .i64 ((i + 1 : Nat) : Int))) tdL :: cs) (σ2.setCell ⟨B, i, none⟩ (.slice sa sl sc)) := by
 have hlt : (decide ((i : Int) < (n : Int))) = true := by simp; omega
 refine .head (g_seq _ _) ?_
 refine .head (g_region _ _) ?_
 refine .head (g_value rfl rfl (q_lss (i := i) (n := n) rfl rfl)) ?_
 rw [hlt]
 refine .head (g_pop _) ?_
 refine .head (g_cond _ _ _ (v := true) rfl) ?_
 refine .head (g_region _ _) ?_
 refine .head (g_enter (o := op1 (some 12) (.call { callee := .value (.func 56), args := #[.tmp 0, .tmp 1, .tmp 10, .tmp 2], argTypes := #[77, 79, 3, 3] }) 77 #[]) rfl rfl (q_call (x := x) (y := y) (z := .int .i64 i) (u := .int .i64 n) rfl rfl rfl rfl)) ?_
 have hg' := giter_app (bq.at (aL x y n b B i (.bool true) u2 u3 u4) [.inRegion ops6 [0, 1, 2, 3, 4], .inLoop codeL, .inBlock 1, .code .ret] :: cs) m _ _ _ _ hg
 refine GRun.trans ⟨m, hg'⟩ ?_
 refine .head (g_back hm hf rfl hr) ?_
 refine .head (g_value rfl rfl (q_index (B := B) (i := i) (n := n) rfl rfl hi)) ?_
 refine .head (g_none rfl rfl (q_put (B := B) (i := i) rfl rfl hc hz)) ?_
 refine .head (g_value rfl rfl (q_add (i := i) rfl (by omega))) ?_
 refine .head (g_value rfl rfl (q_mv rfl)) ?_
 refine .head (g_pop _) ?_
 refine .head (g_again _) ?_
 exact .refl _ _ _
theorem q_end {x y : Value} {n b B : Nat} {u1 u2 u3 u4 : Value} {cs : List Frame} {σ : World} :
   ∃ fr, GRun Seq.prog (bq.at (aL x y n b B n u1 u2 u3 u4) tdL :: cs) σ (fr :: cs) σ /\ fr.mode = .returning /\ Seq.prog.funcs[fr.fn]? = some fS /\ (results fS fr.tmps).run Seq.prog σ = .ok (.slice (some ⟨B, 0, none⟩) n n) σ := by
 have hlt : (decide ((n : Int) < (n : Int))) = false := by simp
 refine ⟨{ bq.at (aL x y n b B n (.bool false) u2 u3 u4) [.code .ret] with mode := .returning }, ?_, rfl, Seq.sp, ?_⟩
 rotate_left
 · show (results fS (aL x y n b B n (.bool false) u2 u3 u4).tmps).run Seq.prog σ = _
   simp [results, show fS.results = #[.tmp 3] from rfl, aL]
 refine .head (g_seq _ _) ?_
 refine .head (g_region _ _) ?_
 refine .head (g_value rfl rfl (q_lss (i := n) (n := n) rfl rfl)) ?_
 rw [hlt]
 refine .head (g_pop _) ?_
 refine .head (g_cond _ _ _ (v := false) rfl) ?_
 refine .head (g_exit _ rfl) ?_
 refine .head g_ret ?_
 exact .refl _ _ _
end Sim
end Go.Proofs.YthgelfnflafoiaeGreat
namespace Go.Proofs.YthgelfnflafoiaeGreat
namespace Sim
open Go.Conc (base)
theorem setCell_other {w : World} {a : Addr} {v : Value} {b : Nat} (h : a.block ≠ b) : (w.setCell a v).heap[b]? = w.heap[b]? := by
 simp [World.setCell, Array.getElem?_modify, h]
theorem setCell_this {w : World} {B i : Nat} {v : Value} {c : Array Value} {t : TypeId} (h : w.heap[B]? = some (.cells c t)) : (w.setCell ⟨B, i, none⟩ v).heap[B]? = some (.cells (c.setIfInBounds i v) t) := by
 simp [World.setCell, Array.getElem?_modify, h]
section
variable (θ0 : Ren) (s0 w : World) (n : Nat) (O : Nat -> Nat -> Prop) (v : Nat -> Value) (x y : Value) (zq : Question -> Bool)
def Rp (i : Nat) : Prop := ∃ (m : Nat) (τ : Nat -> Question -> Nat) (k : Nat), Zt zq τ /\ ∀ (θ : Ren) (σ : World), WRel (Fp Fv) θ σ w -> (∀ b e, θ b = some e -> b < σ.heap.size) -> θ0.le θ -> s0.heap.size <= σ.heap.size -> (∀ b, b < s0.heap.size -> σ.heap[b]? = s0.heap[b]?) ->
 (∀ b e, θ b = some e -> ¬ O i e.blk) -> (∀ i q, i < k -> σ.tape (σ.drawn + i) q = τ i q) ->
 ∃ fr fn σ1 σ2 θ' sa sl sc, giter Seq.prog m [Frame.enter Seq.prog 56 #[x, y, .int .i64 i, .int .i64 n] .normal] σ = some ([fr], σ1) /\ fr.mode = .returning /\ Seq.prog.funcs[fr.fn]? = some fn /\ (results fn fr.tmps).run Seq.prog σ1 = .ok (.slice sa sl sc) σ2 /\ σ2.tape = σ.tape /\ σ2.drawn = σ.drawn + k /\
   WRel (Fp Fv) θ' σ2 w /\ θ.le θ' /\ VRel (Fp Fv) θ' (.slice sa sl sc) (v i) /\ σ.heap.size <= σ2.heap.size /\ (∀ b, b < σ.heap.size -> σ2.heap[b]? = σ.heap[b]?) /\ (∀ b e, θ' b = some e -> b < σ2.heap.size) /\ (∀ b e, θ' b = some e -> θ b = some e \/ (σ.heap.size <= b /\ O i e.blk))
structure Inv (B i : Nat) (θ : Ren) (σ : World) : Prop where
 rel : WRel (Fp Fv) θ σ w
 dom : ∀ b e, θ b = some e -> b < σ.heap.size
 le : θ0.le θ
 size : s0.heap.size <= σ.heap.size
 keep : ∀ b, b < s0.heap.size -> σ.heap[b]? = s0.heap[b]?
 free : θ B = none
 bIn : s0.heap.size <= B /\ B < σ.heap.size
 box : ∃ c, σ.heap[B]? = some (.cells c 77) /\ c.size = n /\ ∀ j, j < i -> ∃ u, c[j]? = some u /\ VRel (Fp Fv) θ u (v j)
 img : ∀ b e, θ b = some e -> ∀ j, i <= j -> j <= n -> ¬ O j e.blk
 new : ∀ b e, θ b = some e -> θ0 b = some e \/ ∃ j, j < i /\ O j e.blk
end
section
variable {θ0 : Ren} {s0 w : World} {n : Nat} {O : Nat -> Nat -> Prop} {v : Nat -> Value} {x y : Value} {zq : Question -> Bool}
theorem rounds (hn : n <= 64) (hO : ∀ i j b, i < n -> j <= n -> O i b -> O j b -> i = j) (hR : ∀ i, i < n -> Rp θ0 s0 w n O v x y zq i) (b B : Nat) (cs : List Frame) : ∀ (r i : Nat), i + r = n ->
   ∃ (τ : Nat -> Question -> Nat) (k : Nat), Zt zq τ /\ ∀ (θ : Ren) (σ : World) (u1 u2 u3 u4 : Value), Inv θ0 s0 w n O v B i θ σ -> (∀ j q, j < k -> σ.tape (σ.drawn + j) q = τ j q) ->
     ∃ θ' σ' t1 t2 t3 t4, GRun Seq.prog (bq.at (aL x y n b B i u1 u2 u3 u4) tdL :: cs) σ (bq.at (aL x y n b B n t1 t2 t3 t4) tdL :: cs) σ' /\ Inv θ0 s0 w n O v B n θ' σ' /\ θ.le θ' /\ σ'.tape = σ.tape /\ σ'.drawn = σ.drawn + k
 | 0, i, hi => by
   obtain rfl : i = n := by omega
   exact ⟨fun _ _ => 0, 0, fun _ _ _ => rfl, fun θ σ u1 u2 u3 u4 hI _ => ⟨θ, σ, u1, u2, u3, u4, .refl _ _ _, hI, Ren.le_refl _, rfl, rfl⟩⟩
 | r + 1, i, hi => by
   obtain ⟨m, τ1, k1, hz1, h1⟩ := hR i (by omega)
   obtain ⟨τ2, k2, hz2, h2⟩ := rounds hn hO hR b B cs r (i + 1) (by omega)
   refine ⟨fun j q => if j < k1 then τ1 j q else τ2 (j - k1) q, k1 + k2, fun j q hq => ?_, fun θ σ u1 u2 u3 u4 hI ht => ?_⟩
   · dsimp only
     split
     · exact hz1 _ _ hq
     · exact hz2 _ _ hq
   · obtain ⟨fr, fn, σ1, σ2, θ', sa, sl, sc, g1, g2, g3, g4, g5, g6, g7, g8, g9, g10, g11, g12, g13⟩ := h1 θ σ hI.rel hI.dom hI.le hI.size hI.keep (fun b e hb => hI.img b e hb i (Nat.le_refl _) (by omega)) (fun j q hj => by
       rw [ht j q (by omega)]; dsimp only; rw [if_pos hj])
     obtain ⟨c, c1, c2, c3⟩ := hI.box
     have cB : σ2.heap[B]? = some (.cells c 77) := by rw [g11 B hI.bIn.2]; exact c1
     have hic : i < c.size := by omega
     have hcell : σ2.cell? ⟨B, i, none⟩ = some c[i] := by simp [World.cell?, cB, hic]
     have hfro : σ2.frozen? ⟨B, i, none⟩ = false := by simp [World.frozen?, cB]
     have hround := q_round (x := x) (y := y) (b := b) (u1 := u1) (u2 := u2) (u3 := u3) (u4 := u4) (cs := cs) (show i < n by omega) hn g1 g2 g3 g4 hcell hfro
     have hfree : θ' B = none := by
       cases hb : θ' B with
       | none => rfl
       | some e =>
         rcases g13 B e hb with h | ⟨h, _⟩
         · rw [hI.free] at h; cases h
         · have := hI.bIn.2; omega
     have hI' : Inv θ0 s0 w n O v B (i + 1) θ' (σ2.setCell ⟨B, i, none⟩ (.slice sa sl sc)) := by
       refine ⟨⟨fun b e hb => (g7.blk b e hb).of_heap (setCell_other (fun h => ?_)) rfl, g7.inj⟩, fun b e hb => by rw [World.size_setCell]; exact g12 b e hb, Ren.le_trans hI.le g8, ?_, fun b hb => ?_, hfree, ⟨hI.bIn.1, ?_⟩, ⟨c.setIfInBounds i (.slice sa sl sc), setCell_this cB, by simpa using c2, fun j hj => ?_⟩, fun b e hb j hj hjn hOj => ?_, fun b e hb => ?_⟩
       · simp only at h
         rw [<- h, hfree] at hb; cases hb
       · rw [World.size_setCell]; have := hI.size; omega
       · rw [setCell_other (by have := hI.bIn.1; simp only; omega), g11 b (by have := hI.size; omega)]
         exact hI.keep b hb
       · rw [World.size_setCell]; have := hI.bIn.2; omega
       · rw [Array.getElem?_setIfInBounds]
         by_cases hji : i = j
         · subst hji
           exact ⟨_, by simp [hic], g9⟩
         · obtain ⟨u, e1, e2⟩ := c3 j (by omega)
           exact ⟨u, by rw [if_neg hji]; exact e1, e2.mono g8⟩
       · rcases g13 b e hb with h | ⟨_, h⟩
         · exact hI.img b e h j (by omega) hjn hOj
         · have := hO i j e.blk (by omega) hjn h hOj
           omega
       · rcases g13 b e hb with h | ⟨_, h⟩
         · exact (hI.new b e h).imp id fun ⟨j, hj, hOj⟩ => ⟨j, by omega, hOj⟩
         · exact .inr ⟨i, by omega, h⟩
     obtain ⟨θ2, σ3, t1, t2, t3, t4, d1, d2, d3, d4, d5⟩ := h2 θ' (σ2.setCell ⟨B, i, none⟩ (.slice sa sl sc)) (.bool true) (.slice sa sl sc) (.pointer (some ⟨B, i, none⟩)) (.int .i64 ((i + 1 : Nat) : Int)) hI' (fun j q hj => by
       rw [World.tape_setCell, World.drawn_setCell, g5, g6, Nat.add_assoc, ht (k1 + j) q (by omega)]
       dsimp only
       rw [if_neg (by omega), show k1 + j - k1 = j by omega])
     refine ⟨θ2, σ3, t1, t2, t3, t4, hround.trans d1, d2, Ren.le_trans g8 d3, ?_, ?_⟩
     · rw [d4, World.tape_setCell, g5]
     · rw [d5, World.drawn_setCell, g6]; omega
end
end Sim
end Go.Proofs.YthgelfnflafoiaeGreat
namespace Go.Proofs.YthgelfnflafoiaeGreat
namespace Sim
theorem wq3_size (s : World) : (wq3 s).heap.size = s.heap.size + 1 := by
 simp [wq3, wq2, wq1, World.size_setCell]
theorem wq3_old {s : World} {b : Nat} (h : b < s.heap.size) : (wq3 s).heap[b]? = s.heap[b]? := by
 unfold wq3
 rw [setCell_other (by simp only; omega)]
 show (s.heap.push _)[b]? = _
 rw [Array.getElem?_push, if_neg (by omega)]
theorem wqM_old {s : World} {n b : Nat} (h : b < s.heap.size) : (wqM s n).heap[b]? = s.heap[b]? := by
 rw [<- wq3_old h]
 show ((wq3 s).heap.push _)[b]? = _
 rw [Array.getElem?_push, if_neg (by rw [wq3_size]; omega)]
theorem wqM_box (s : World) (n : Nat) : (wqM s n).heap[(wq3 s).heap.size]? = some (.cells (madeCells #[.slice none 0 0] n) 77) := by
 show ((wq3 s).heap.push _)[(wq3 s).heap.size]? = _
 rw [Array.getElem?_push, if_pos rfl]
theorem wqM_size (s : World) (n : Nat) : (wqM s n).heap.size = s.heap.size + 2 := by
 show ((wq3 s).heap.push _).size = _
 rw [Array.size_push, wq3_size]
section
variable {θ0 : Ren} {s0 w : World} {n C : Nat} {O : Nat -> Nat -> Prop} {v : Nat -> Value} {x y : Value} {zq : Question -> Bool} {cs : List Frame} {c' : Array Value}
theorem sp_again (hn : n <= 64) (hW : WRel (Fp Fv) θ0 s0 w) (hO : ∀ i j b, i < n -> j <= n -> O i b -> O j b -> i = j) (hOC : ∀ b, O n b ↔ b = C)
   (hR : ∀ i, i < n -> Rp θ0 s0 w n O v x y zq i) (himg : ∀ b e, θ0 b = some e -> ∀ j, j <= n -> ¬ O j e.blk) (hC : w.heap[C]? = some (.cells c' 77)) (hsz : c'.size = n) (hv : ∀ i, i < n -> c'[i]? = some (v i)) :
   ∃ (τ : Nat -> Question -> Nat), Zt zq τ /\ ∃ fr σ θ B, GRun Seq.prog (Frame.enter Seq.prog 39 #[x, y, .int .i64 n] .normal :: cs) (tp s0 τ 0) (fr :: cs) σ /\ fr.mode = .returning /\ Seq.prog.funcs[fr.fn]? = some fS /\
     (results fS fr.tmps).run Seq.prog σ = .ok (.slice (some ⟨B, 0, none⟩) n n) σ /\ WRel (Fp Fv) θ σ w /\ θ0.le θ /\ VRel (Fp Fv) θ (.slice (some ⟨B, 0, none⟩) n n) (.slice (some ⟨C, 0, none⟩) n n) /\ (∀ b e, θ b = some e -> θ0 b = some e \/ e.blk = C \/ ∃ j, j < n /\ O j e.blk) := by
 obtain ⟨τ, k, hz, h⟩ := rounds (θ0 := θ0) (s0 := s0) (w := w) (O := O) (v := v) (x := x) (y := y) (zq := zq) hn hO hR s0.heap.size (s0.heap.size + 1) cs n 0 (by omega)
 refine ⟨fun j q => if j < 1 then 0 else τ (j - 1) q, fun j q hq => ?_, ?_⟩
 · dsimp only
   split
   · rfl
   · exact hz _ _ hq
 generalize hT : (fun (j : Nat) (q : Question) => if j < 1 then 0 else τ (j - 1) q) = T
 have hb := q_begin (x := x) (y := y) (cs := cs) (tp s0 T 0) hn (by rw [<- hT]; rfl)
 have hB : (wq3 (tp s0 T 0)).heap.size = s0.heap.size + 1 := wq3_size _
 have hdom : ∀ b e, θ0 b = some e -> b < s0.heap.size := fun b e hb => by
   rcases hW.blk b e hb with ⟨_, _, _, _, _, _, h1, _⟩ | ⟨_, _, _, _, _, h1, _⟩ <;> exact (Array.getElem?_eq_some_iff.1 h1).1
 have hI : Inv θ0 s0 w n O v (s0.heap.size + 1) 0 θ0 (wqM (tp s0 T 0) n) := by
   have hold : ∀ b, b < s0.heap.size -> (wqM (tp s0 T 0) n).heap[b]? = s0.heap[b]? := fun b hb => wqM_old (s := tp s0 T 0) hb
   have hms : (wqM (tp s0 T 0) n).heap.size = s0.heap.size + 2 := wqM_size _ _
   refine ⟨⟨fun b e hb => (hW.blk b e hb).of_heap (hold b (hdom b e hb)) rfl, hW.inj⟩, fun b e hb => by have := hdom b e hb; omega, Ren.le_refl _, by omega, hold, ?_, ⟨by omega, by omega⟩, ⟨madeCells #[.slice none 0 0] n, ?_, by simp [madeCells], fun j hj => by omega⟩, fun b e hb j _ hj => himg b e hb j hj, fun b e hb => .inl hb⟩
   · cases hx : θ0 (s0.heap.size + 1) with
     | none => rfl
     | some e => have := hdom _ e hx; omega
   · rw [<- hB]; exact wqM_box _ n
 obtain ⟨θ, σ, t1, t2, t3, t4, d1, d2, d3, d4, d5⟩ := h θ0 (wqM (tp s0 T 0) n) undef undef undef undef hI (fun j q _ => by
   show T (0 + 1 + j) q = _
   rw [<- hT]
   dsimp only
   rw [if_neg (by omega), show 0 + 1 + j - 1 = j by omega])
 obtain ⟨fr, e1, e2, e3, e4⟩ := q_end (x := x) (y := y) (n := n) (b := s0.heap.size) (B := s0.heap.size + 1) (u1 := t1) (u2 := t2) (u3 := t3) (u4 := t4) (cs := cs) (σ := σ)
 obtain ⟨c, c1, c2, c3⟩ := d2.box
 obtain ⟨f1, f2⟩ := d2.rel.addOwn d2.free (b' := C) (fun z e hz hc => d2.img z e hz n (Nat.le_refl _) (Nat.le_refl _) ((hOC _).2 hc)) c1 hC (by rw [hsz, c2]) (fun i u u' hu hu' => by
   have hi : i < n := by have := (Array.getElem?_eq_some_iff.1 hu).1; omega
   obtain ⟨u0, k1, k2⟩ := c3 i hi
   rw [hu] at k1
   cases k1
   rw [hv i hi] at hu'
   cases hu'
   exact k2)
 rw [hB] at hb
 refine ⟨fr, σ, θ.add (s0.heap.size + 1) C, s0.heap.size + 1, (hb.trans d1).trans e1, e2, e3, e4, f1, Ren.le_trans d3 f2, ?_⟩
 refine ⟨.slice _ _ ⟨⟨C, 0, true⟩, by simp [Ren.add], rfl, rfl⟩, fun b e hb => ?_⟩
 unfold Ren.add at hb
 split at hb
 · cases hb; exact .inr (.inl rfl)
 · exact (d2.new b e hb).imp id .inr
end
end Sim
end Go.Proofs.YthgelfnflafoiaeGreat
namespace Go.Proofs.YthgelfnflafoiaeGreat
namespace Crw
open Go.Conc Go.ConcN Sim
open Go.ConcR (KK wgBlock WgAt stA smA rd wr mk Payload DC0)
def zqs : Question -> Bool
 | .order f i => f == 39 && i == 1
 | _ => false
theorem zqs_no (q : Question) (h : zqs q = true) : ¬ OrdOk Tryz.prog q := by
 intro ho
 cases q with
 | order f i =>
   simp only [zqs, Bool.and_eq_true, beq_iff_eq] at h
   obtain ⟨rfl, rfl⟩ := h
   obtain ⟨fn, h1, h2⟩ := ho _ _ rfl
   rw [Tryz.func39] at h1
   cases h1
   have h3 : hasGo Tryz.f39 = true := by kernel_rfl
   rw [h3] at h2
   cases h2
 | _ => cases h
def Ready (s : World) (x y z : Value) : Prop := ∃ na nl nc pa pl pc, ∃ n : Nat, x = .slice na nl nc /\ y = .slice pa pl pc /\ z = .int .i64 n /\ 1 <= n /\ n <= 64 /\ (∀ a, na = some a -> isCells s a.block = true) /\ (∀ a, pa = some a -> isCells s a.block = true) /\
 ∀ (θ : Ren) (w : World) (x' y' : Value), WRel (Fp Fv) θ s w -> VRel (Fp Fv) θ x x' -> VRel (Fp Fv) θ y y' -> ∀ i : Nat, i < n -> ∀ τ d, Calls Seq.prog 56 #[x, y, .int .i64 i, .int .i64 n] (tp (frz (Fp Fv) θ s) τ d) fun e _ => ∃ v, e = .returned v /\ isSl v
structure Kp (w0 : World) (ρ : Ren) (w : World) : Prop where
 size : w0.heap.size <= w.heap.size
 keep : ∀ b, b < w0.heap.size -> w.heap[b]? = w0.heap[b]?
 own : ∀ b e, ρ b = some e -> e.own = true -> w0.heap.size <= e.blk
 out : w.os = w0.os /\ w.output = w0.output /\ w.tape = w0.tape
theorem Kp.moved {w0 : World} {ρ σ : Ren} {s s' w w' : World} (h : Kp w0 ρ w) (hm : Moved ρ σ s s' w w') : Kp w0 σ w' :=
 ⟨Nat.le_trans h.size hm.sizeW, fun b hb => (hm.keepW b (Nat.lt_of_lt_of_le hb h.size) fun b0 e h0 ho => by have := h.own b0 e h0 ho; omega).trans (h.keep b hb),
   fun b e hb ho => by
     rcases hm.new b e hb with h1 | ⟨_, h1, _⟩
     · exact h.own b e h1 ho
     · exact Nat.le_trans h.size h1, ⟨hm.outW.1.trans h.out.1, hm.outW.2.1.trans h.out.2.1, hm.outW.2.2.trans h.out.2.2⟩⟩
def Aim (fl : FuncId) (x0 : Array Value) (s0 w0 : World) (Post : Value -> World -> Prop) (fs : List Frame) (s : World) : Prop :=
 Rec Seq.prog [Frame.enter Seq.prog fl x0 .normal] s0 fs s -> ∀ (gs : Array Goroutine) (q : Nat -> Nat) (w : World) (t : Trace) (sl : Option (Nat × Nat)) (SB : Nat -> Prop) (ρ : Ren) (f' : Frame) (cs' : List Frame),
   gs[0]? = some (G f' cs') -> Fr Tryz.prog SB gs q w t -> (FsRel Seq.prog Fv 39 ρ fs (f' :: cs') \/ AtSp Seq.prog Tryz.prog Fv 39 ρ fs (f' :: cs')) -> WRel (Fp Fv) ρ s w -> (∀ b e, ρ b = some e -> ¬ SB e.blk) -> Kp w0 ρ w ->
   Ends Tryz.prog Post (crowd gs w sl) t
theorem three_of_size {α : Type} {x : Array α} (h : x.size = 3) : ∃ a b c, x = #[a, b, c] := by
 obtain ⟨l⟩ := x
 match l, h with
 | [a, b, c], _ => exact ⟨a, b, c, rfl⟩
theorem slice_of {F : FuncId -> Prop} {ρ : Ren} {a : Option Addr} {l c : Nat} {v : Value} (h : VRel F ρ (.slice a l c) v) : ∃ a', v = .slice a' l c := by
 cases h with
 | nilSlice => exact ⟨_, rfl⟩
 | slice => exact ⟨_, rfl⟩
 | void => exact ⟨_, rfl⟩
theorem slice_back {F : FuncId -> Prop} {ρ : Ren} {v v' : Value} (h : VRel F ρ v v') (hs : isSl v') : isSl v := by
 obtain ⟨a, l, c, rfl⟩ := hs
 cases h with
 | nilSlice => exact ⟨_, _, _, rfl⟩
 | slice => exact ⟨_, _, _, rfl⟩
 | void => exact ⟨_, _, _, rfl⟩
theorem av4 {F : FuncId -> Prop} {ρ : Ren} {a b c d a' b' c' d' : Value} (h1 : VRel F ρ a a') (h2 : VRel F ρ b b') (h3 : VRel F ρ c c') (h4 : VRel F ρ d d') : AVRel F ρ #[a, b, c, d] #[a', b', c', d'] := by
 refine ⟨rfl, fun i v v' hv hv' => ?_⟩
 match i with
 | 0 => cases hv; cases hv'; exact h1
 | 1 => cases hv; cases hv'; exact h2
 | 2 => cases hv; cases hv'; exact h3
 | 3 => cases hv; cases hv'; exact h4
 | i + 4 => simp at hv
theorem fv_send : Fv 56 = true := by kernel_rfl
theorem fv_fq (f : FuncId) (h : Fp Fv f) : Fp Fq f := by
 have h' : Fv f = true := h
 unfold Fv at h'
 rw [Bool.and_eq_true] at h'
 exact h'.1
theorem sp_case {fl : FuncId} {x0 : Array Value} {s0 w0 : World} {Post : Value -> World -> Prop} (hwf0 : WF Seq.prog Fq Tryz.prog.funcs.size [Frame.enter Seq.prog fl x0 .normal] s0)
   (hPre : ∀ x y z cs s, Rec Seq.prog [Frame.enter Seq.prog fl x0 .normal] s0 (Frame.enter Seq.prog 39 #[x, y, z] .normal :: cs) s -> Ready s x y z) {cs : List Frame} {x : Array Value} {s : World}
   (hrec : Rec Seq.prog [Frame.enter Seq.prog fl x0 .normal] s0 (Frame.enter Seq.prog 39 x .normal :: cs) s)
   (ih : ∀ n τ d fs' s', Zt zqs τ -> giter Seq.prog (n + 1) (Frame.enter Seq.prog 39 x .normal :: cs) (tp s τ d) = some (fs', s') -> Aim fl x0 s0 w0 Post fs' s')
   {gs : Array Goroutine} {q : Nat -> Nat} {w : World} {t : Trace} {sl : Option (Nat × Nat)} {SB : Nat -> Prop} {ρ : Ren} {x' : Array Value} {cs' : List Frame}
   (h0 : gs[0]? = some (G (Frame.enter Tryz.prog 39 x' .normal) cs')) (hFr : Fr Tryz.prog SB gs q w t) (hx3 : x.size = 3) (hx : AVRel (Fp Fv) ρ x x') (hcs : FsRel Seq.prog Fv 39 ρ cs cs') (hne : cs ≠ [])
   (hw : WRel (Fp Fv) ρ s w) (hSB : ∀ b e, ρ b = some e -> ¬ SB e.blk) (hK : Kp w0 ρ w) : Ends Tryz.prog Post (crowd gs w sl) t := by
 obtain ⟨H1, hF1, Hv, hFv, H0, hF0, hsp, _⟩ := fq
 obtain ⟨x1, y1, z1, rfl⟩ := three_of_size hx3
 obtain ⟨x1', y1', z1', rfl⟩ := three_of_size (hx.1.symm.trans hx3)
 obtain ⟨na, nl, nc, pa, pl, pc, n, rfl, rfl, rfl, h1, h64, hca, hcb, hsend⟩ := hPre _ _ _ _ _ hrec
 have v1 := hx.2 0 _ _ rfl rfl
 have v2 := hx.2 1 _ _ rfl rfl
 have v3 := hx.2 2 _ _ rfl rfl
 obtain ⟨na', rfl⟩ := slice_of v1
 obtain ⟨pa', rfl⟩ := slice_of v2
 cases v3
 cases hcs with
 | nil => exact absurd rfl hne
 | @cons c c' cs cs' hc hcs =>
 have hpos : 0 < gs.size := (Array.getElem?_eq_some_iff.1 h0).1
 have hsh := frz_rel hw
 have s1 := shared_slice (s := s) v1 hca
 have s2 := shared_slice (s := s) v2 hcb
 have hargs : ∀ i : Nat, AVRel (Fp Fv) (shared ρ s) #[.slice na nl nc, .slice pa pl pc, .int .i64 i, .int .i64 n] (argsw n i (.slice na' nl nc) (.slice pa' pl pc)) := fun i => av4 s1 s2 (.int _ _) (.int _ _)
 have hnq : 56 ≠ Tryz.prog.funcs.size := fun e => by
   have h := hsp.1
   rw [<- e] at h
   have h' : Fq 56 = true := fv_fq _ fv_send
   rw [h'] at h
   cases h
 have hwfi : ∀ i : Nat, WF Seq.prog Fq Tryz.prog.funcs.size [Frame.enter Seq.prog 56 #[.slice na nl nc, .slice pa pl pc, .int .i64 i, .int .i64 n] .normal] (frz (Fp Fv) ρ s) := fun i =>
   ⟨shared ρ s, [Frame.enter Seq.prog 56 (argsw n i (.slice na' nl nc) (.slice pa' pl pc)) .normal], w, .cons (FRel.enter hF0 (fv_fq _ fv_send) hnq (AVRel.fmono fv_fq (hargs i))) .nil, WRel.fmono fv_fq hsh⟩
 have hbar : ∀ i : Nat, i < n -> Bar Seq.prog (RetE Seq.prog) [Frame.enter Seq.prog 56 #[.slice na nl nc, .slice pa pl pc, .int .i64 i, .int .i64 n] .normal] (frz (Fp Fv) ρ s) := fun i hi =>
   bar_call H0 hF0 hsp (hwfi i) (hsend ρ w _ _ hw v1 v2 i hi)
 have hlow : ∀ b e, ρ b = some e -> e.blk < w.heap.size := fun b e hb => brel_blk (hw.blk b e hb)
 have W : WHyp Seq.prog Fv 39 Tryz.prog.funcs.size (more SB (w.heap.size + 5)) w.heap.size n (.slice na' nl nc) (.slice pa' pl pc) (shared ρ s) (frz (Fp Fv) ρ s) (fun i => #[.slice na nl nc, .slice pa pl pc, .int .i64 i, .int .i64 n]) :=
   { H := H1, hF := hF1, hno := hno_sp, hSB := fun b hb => hb.imp (hFr.sb b) id, known := fv_send, nsp := by decide, args := fun i _ => hargs i, bar := hbar
     own := fun b e hb => by
       obtain ⟨_, e0, h2, rfl⟩ := shared_some hb
       refine ⟨fun ho => (by cases ho), fun _ => ?_⟩
       have := hlow b e0 h2
       refine ⟨by simp only; omega, by simp only; omega, by simp only; omega, ?_⟩
       rintro (hs | hs)
       · exact hSB b e0 h2 hs
       · simp only at hs; omega
     st := ⟨Fq, H0, hF0, hsp, fun i _ => hwfi i⟩ }
 refine sendAll_ends W hsh h1 h64 h0 hFr (fun gs' w' sl' t' q' own g0' F' hold hpay hfin hown hout => ?_) sl
 obtain ⟨v, hv⟩ : ∃ v : Nat -> Value, ∀ i, i < n -> Has (w.heap.size + 3) i (v i) w' /\ SimFin Seq.prog Fv (more SB (w.heap.size + 5)) (w.heap.size + 5) (w.heap.size + 3) (w.heap.size + 6) (shared ρ s) (frz (Fp Fv) ρ s) (fs0w Seq.prog (fun i => #[.slice na nl nc, .slice pa pl pc, .int .i64 i, .int .i64 n])) i (v i) w' (fun b => own b = gs.size + i) :=
   ⟨fun i => if h : i < n then Classical.choose (hfin i h) else undef, fun i hi => by simp only [dif_pos hi]; exact Classical.choose_spec (hfin i hi)⟩
 obtain ⟨cc, hC, hcsz⟩ := hpay
 have hNlt : w.heap.size + 3 < w'.heap.size := (Array.getElem?_eq_some_iff.1 hC).1
 let O : Nat -> Nat -> Prop := fun i b => (i < n /\ own b = gs.size + i) \/ (i = n /\ b = w.heap.size + 3)
 have hOlow : ∀ j b, O j b -> b = w.heap.size + 3 \/ w.heap.size + 6 <= b := by
   rintro j b (⟨_, h⟩ | ⟨_, h⟩)
   · exact .inr (hown b (by omega)).1
   · exact .inl h
 have hO : ∀ i j b, i < n -> j <= n -> O i b -> O j b -> i = j := by
   rintro i j b hi hj (⟨_, ha⟩ | ⟨ha, _⟩) (⟨_, hb⟩ | ⟨_, hb⟩)
   · omega
   · have := (hown b (by omega)).1; omega
   · omega
   · omega
 have hOC : ∀ b, O n b ↔ b = w.heap.size + 3 := fun b => ⟨fun h => by
   rcases h with ⟨h, _⟩ | ⟨_, h⟩
   · omega
   · exact h, fun h => .inr ⟨rfl, h⟩⟩
 have hW' : WRel (Fp Fv) ρ s w' := ⟨fun b e hb => (hw.blk b e hb).of_heap rfl (hold e.blk (hlow b e hb)), hw.inj⟩
 have hR : ∀ i, i < n -> Rp ρ s w' n O v (.slice na nl nc) (.slice pa pl pc) zqs i := by
   intro i hi
   obtain ⟨_, ρi, fr, si, fn, vS, r1, r2, r3, r4, r5, r6, r7, r8, r9, _⟩ := hv i hi
   obtain ⟨m, τ, k, hz, hrep⟩ := replay (zq := zqs) H1 hF1 zqs_no Hv hFv H0 hF0 hsp hno_sp hw fv_send (by decide) (hargs i) (hbar i hi) (hwfi i) r1 r2 r3 r4 r5 r6 r8.le (fun b e hb => by
     have := r8.new b e hb
     rw [frz_size] at this
     exact this)
   refine ⟨m, τ, k, hz, fun θ σ a1 a2 a3 a4 a5 a6 a7 => ?_⟩
   obtain ⟨fr', σ1, σ2, θ', vσ, b1, b2, b3, b4, b5, b6, b7, b8, b9, b10, b11, b12, b13⟩ := hrep θ σ a1 a2 a3 a4 a5 (fun b e b1 e1 hb hb1 ho heq => a6 b e hb (.inl ⟨hi, by rw [heq]; exact (r7 b1 e1 hb1).1 ho⟩)) a7
   obtain ⟨sa, sl, sc, rfl⟩ := slice_back b9 r9
   exact ⟨fr', fn, σ1, σ2, θ', sa, sl, sc, b1, b2, b3, b4, b5, b6, b7, b8, b9, b10, b11, b12, fun b e hb => (b13 b e hb).imp id fun ⟨c1, b1, c2, c3⟩ => ⟨c1, .inl ⟨hi, (r7 b1 e c2).1 c3⟩⟩⟩
 obtain ⟨τ, hz, fr, σ, θ, B, ⟨m, hg⟩, e2, e3, e4, e5, e6, e7, e8⟩ := sp_again (O := O) (v := v) (x := .slice na nl nc) (y := .slice pa pl pc) (zq := zqs) (cs := c :: cs) h64 hW' hO hOC hR
   (fun b e hb j _ hOj => by have := hlow b e hb; have := hOlow j _ hOj; omega) hC hcsz (fun i hi => by
     have := (hv i hi).1
     unfold Has at this
     simpa [World.cell?, hC] using this)
 have hret : (gsem Seq.prog (fr :: c :: cs)).run Seq.prog σ = .ok (c.finish (.slice (some ⟨B, 0, none⟩) n n) :: cs) σ := by
   unfold gsem
   simp only [e2, e3]
   show ((results fS fr.tmps).bind fun v => Sem.pure (c.finish v :: cs)).run Seq.prog σ = _
   rw [Sem.run_bind', e4]
   rfl
 have hg1 : giter Seq.prog (m + 1) (Frame.enter Seq.prog 39 #[.slice na nl nc, .slice pa pl pc, .int .i64 n] .normal :: c :: cs) (tp s τ 0) = some (c.finish (.slice (some ⟨B, 0, none⟩) n n) :: cs, σ) := by
   refine giter_add m 1 hg ?_
   simp only [giter]
   rw [hret]
 have himg : ∀ b e, θ b = some e -> e.blk < w.heap.size /\ ρ b = some e \/ e.blk = w.heap.size + 3 \/ w.heap.size + 6 <= e.blk := by
   intro b e hb
   rcases e8 b e hb with h | h | ⟨j, _, h⟩
   · exact .inl ⟨hlow b e h, h⟩
   · exact .inr (.inl h)
   · exact .inr (hOlow j _ h)
 refine ih m τ 0 _ σ hz hg1 (Rec.steps H0 hF0 hsp hwf0 (m + 1) (hrec.tp τ 0) hg1) gs' q' w' t' sl' (more SB (w.heap.size + 5)) θ (c'.finish (.slice (some ⟨w.heap.size + 3, 0, none⟩) n n)) cs' g0' F'
   (.inl (.cons ((hc.mono e6).finish e7) (hcs.mono e6))) e5 (fun b e hb hs => ?_) ⟨by have := hK.size; omega, fun b hb => (hold b (by have := hK.size; omega)).trans (hK.keep b hb), fun b e hb ho => ?_, ⟨hout.1.trans hK.out.1, hout.2.1.trans hK.out.2.1, hout.2.2.trans hK.out.2.2⟩⟩
 · rcases hs with hs | hs
   · have hlt := hFr.sb _ hs
     rcases himg b e hb with ⟨_, h⟩ | h | h
     · exact hSB b e h hs
     · omega
     · omega
   · rcases himg b e hb with ⟨h, _⟩ | h | h <;> omega
 · have := hK.size
   rcases himg b e hb with ⟨_, h⟩ | h | h
   · exact hK.own b e h ho
   · omega
   · omega
end Crw
end Go.Proofs.YthgelfnflafoiaeGreat
namespace Go.Proofs.YthgelfnflafoiaeGreat
namespace Crw
open Go.Conc Go.ConcN Sim
theorem Kp.at {w0 : World} {ρ : Ren} {w : World} (h : Kp w0 ρ w) (d : Nat) : Kp w0 ρ (w.at d) := ⟨h.size, h.keep, h.own, h.out⟩
theorem fv_init : ([3, 4, 5, 6, 7, 8, 9, 10, 11, 12, 13, 14, 15, 16, 17, 18, 19, 20, 21, 22, 23, 24, 25, 26, 27, 28, 29, 30, 31, 32, 33, 34, 35, 36, 37, 38, 39, 40, 41, 42, 43, 44, 45, 46, 47, 48, 49, 50, 51, 52, 56, 58, 59, 60, 61, 62, 76, 82, 83, 84, 85, 86, 87, 88, 89, 90, 95, 97, 98, 99, 100, 101, 102, 103, 104, 105, 106, 107, 108, 109, 110, 111, 112, 113, 114, 115, 116, 117, 118, 119, 120, 121, 122, 123, 124, 125, 126, 127, 128, 129, 130] : List Nat).all (fun f => (Tryz.prog.inits.idxOf? f).isNone) = true := by kernel_rfl
theorem fv_noinit {f : FuncId} (h : Fv f = true) : Tryz.prog.inits.idxOf? f = none := by
 have h1 : Fq f = true := fv_fq f h
 have := List.all_eq_true.1 fv_init f (List.contains_iff_mem.1 h1)
 simpa using this
theorem outer {fl : FuncId} {x0 : Array Value} {s0 w0 : World} {Q : Value -> Prop} {Post : Value -> World -> Prop} (hwf0 : WF Seq.prog Fq Tryz.prog.funcs.size [Frame.enter Seq.prog fl x0 .normal] s0)
   (hPre : ∀ x y z cs s, Rec Seq.prog [Frame.enter Seq.prog fl x0 .normal] s0 (Frame.enter Seq.prog 39 #[x, y, z] .normal :: cs) s -> Ready s x y z)
   (hPost : ∀ v v' θ w', Q v -> VRel (Fp Fv) θ v v' -> Kp w0 θ w' -> Post v' w') {fs : List Frame} {s : World} (hB : BarZ Seq.prog zqs (RetQ Seq.prog Q) fs s) (hwf : WF Seq.prog Fq Tryz.prog.funcs.size fs s) : Aim fl x0 s0 w0 Post fs s := by
 obtain ⟨H1, hF1, Hv, hFv, H0, hF0, hsp, _⟩ := fq
 refine barZ_ind (P := Aim fl x0 s0 w0 Post) H0 hF0 hsp (retQ_ok _ _) (fun fs s hwf hB ih => ?_) hB hwf
 intro hrec gs q w t sl SB ρ f' cs' h0 hFr hrel hw hSB hK
 have hst0 : (G f' cs').status = .running := rfl
 rcases hrel with hfs | ⟨_, x, x', cs, cs2, hsz, rfl, hcons, hx, hcs, hne⟩
 · cases hB with
   | stop hE =>
     obtain ⟨fr, rfl, hm, fn, v, hfn, hres, hQ⟩ := hE
     cases hfs with
     | cons a b =>
       cases b
       refine end_fr2 (w := w) (SB := SB) hst0 (fun d => ?_) (sumTo gs.size q) gs q w.drawn sl t (Nat.le_refl _) h0 hFr
       obtain ⟨fnR, cc, e1, e2, _, _⟩ := hF1.fn _ a.known a.nsp
       rw [hfn] at e1
       cases e1
       rcases (results_rel H1 fn a.tmps).runAll (tp s w.tape d) (w.at d) #[] (hw.of_heap rfl rfl) (fun K i q _ => rfl) with ⟨hx, sx, r1, _⟩ | ⟨v1, sx, v', w', σ, u, r1, r2, r3, r4, r5, r6, r7, r8, r9⟩
       · rw [hres] at r1; cases r1
       · rw [hres] at r1
         cases r1
         have hfe : Tryz.prog.funcs[f'.fn]? = some fn := by rw [<- a.fn]; exact e2
         have hSB' : ∀ b e, σ b = some e -> ¬ SB e.blk := fun b e hb hs => by
           rcases r6.new b e hb with h | ⟨_, h, _⟩
           · exact hSB b e h hs
           · have h1 := hFr.sb _ hs
             have h2 : w.heap.size <= e.blk := h
             omega
         refine ⟨v', w', _, stepG_done a.pR (a.mode.symm.trans hm) hfe (fv_noinit (by rw [<- a.fn]; exact a.known)) r4, r6.sizeW, fun e he => ?_, hPost v v' σ w' hQ r8 ((hK.at d).moved r6)⟩
         have := mem_seen he
         rw [Array.empty_append] at this
         exact evf_of_ok hSB' r7 (r9 e this)
   | step h1 h2 =>
     refine step_fr (w := w) (gs := gs) (SB := SB) hst0 (fun d => ?_) (sumTo gs.size q) gs q w.drawn sl t (Nat.le_refl _) h0 rfl hFr
     obtain ⟨fs1, s1, f1, cs1, w', es, σ, hr, hst, hdf, hrel1, hw1, hmv, hSB1⟩ := main_go H1 hF1 zqs_no hfs hw hSB hFr.sb h1 d
     refine ⟨_, w', es, hst, hdf, fun gs' q' sl' t' g0 _ hF' => ?_⟩
     have hg : giter Seq.prog 1 fs (tp s (zf zqs w.tape) d) = some (fs1, tp s1 (zf zqs w.tape) s1.drawn) := by
       simp only [giter]
       rw [hr]
     exact ih 0 _ d _ _ (zf_zt _ _) hg (Rec.steps H0 hF0 hsp hwf0 1 (hrec.tp _ _) hg) gs' q' w' t' sl' SB σ f1 cs1 g0 hF' hrel1 (hw1.of_heap rfl rfl) hSB1 ((hK.at d).moved hmv)
 · obtain ⟨rfl, rfl⟩ := List.cons.inj hcons
   have hx3 : x.size = 3 := hsz.resolve_left (fun h => by rw [fv_out] at h; cases h)
   exact sp_case hwf0 hPre hrec ih h0 hFr hx3 hx hcs hne hw hSB hK
end Crw
end Go.Proofs.YthgelfnflafoiaeGreat
namespace Go.Proofs.YthgelfnflafoiaeGreat
def nearB (x : Int) : Prop := -1000000000 <= x /\ x <= 1000000000
def Near (l : List (Int × Int)) (k : Nat) : Prop := ∀ i, i < k -> nearB (l.getD i (0, 0)).1 /\ nearB (l.getD i (0, 0)).2
def nearDec (l : List (Int × Int)) (k : Nat) : Decidable (Near l k) := by unfold Near nearB; infer_instance
def Form (l : List (Int × Int)) (k : Nat) : Prop := ∀ i, i < k -> (l.getD i (0, 0)).1 < (l.getD i (0, 0)).2 /\ (0 < i -> (l.getD (i - 1) (0, 0)).2 < (l.getD i (0, 0)).1)
def goodDec (l : List (Int × Int)) (k : Nat) : Decidable (Near l k /\ Form l k) := by unfold Near Form nearB; infer_instance
def cbs (l : List (Int × Int)) : Int := if 200 < l.length then 2 else @ite Int (Near l l.length) (nearDec l l.length) 0 5
def chk (l : List (Int × Int)) : Int := if 200 < l.length then 2 else @ite Int (Near l l.length /\ Form l l.length) (goodDec l l.length) 0 5
def flat (l : List (Int × Int)) : List Int := l.flatMap fun p => [p.1, p.2]
theorem flat_cons (p : Int × Int) (l : List (Int × Int)) : flat (p :: l) = p.1 :: p.2 :: flat l := by simp [flat]
theorem flat_append (a b : List (Int × Int)) : flat (a ++ b) = flat a ++ flat b := by simp [flat]
theorem flat_length (l : List (Int × Int)) : (flat l).length = 2 * l.length := by
 induction l with
 | nil => rfl
 | cons p l ih => rw [flat_cons]; simp only [List.length_cons, ih]; omega
theorem take_succ_get {α : Type} (l : List α) (k : Nat) (hk : k < l.length) : l.take (k + 1) = l.take k ++ [l[k]] := by
 rw [List.take_add_one, List.getElem?_eq_getElem hk]; rfl
theorem flat_succ (l : List (Int × Int)) (k : Nat) (hk : k < l.length) : flat (l.take (k + 1)) = flat (l.take k) ++ [l[k].1, l[k].2] := by
 rw [take_succ_get l k hk, flat_append]; rfl
theorem flat_getD (l : List (Int × Int)) (j : Nat) (h : j < l.length) : (flat l)[j * 2]? = some (l.getD j (0, 0)).1 /\ (flat l)[j * 2 + 1]? = some (l.getD j (0, 0)).2 := by
 induction l generalizing j with
 | nil => simp at h
 | cons p l ih =>
   rw [flat_cons]
   cases j with
   | zero => exact ⟨rfl, rfl⟩
   | succ j =>
     have := ih j (by simpa using h)
     rw [show (j + 1) * 2 = j * 2 + 1 + 1 by omega]
     simpa using this
def cnt (l : List Int) (t : Int) : Nat := l.countP fun x => decide (x <= t)
def Stp (A : List Int) (i i' : Nat) (τ : Int) : Prop := (i' = i + 1 /\ A[i]? = some τ) \/ (i' = i /\ ∀ y ∈ A.drop i, τ < y)
theorem stp_no {A : List Int} {i : Nat} {τ : Int} (sA : A.Pairwise (· < ·)) (h : i < A.length) (e : τ < A[i]) : Stp A i i τ := by
 refine .inr ⟨rfl, fun y hy => ?_⟩
 have sd := sA.sublist (List.drop_sublist i A)
 rw [List.drop_eq_getElem_cons h] at hy sd
 rw [List.pairwise_cons] at sd
 simp only [List.mem_cons] at hy
 rcases hy with rfl | hy
 · exact e
 · have := sd.1 y hy; omega
def has (l : List (Int × Int)) (t : Int) : Bool := l.any fun p => decide (p.1 <= t) && decide (t < p.2)
theorem has_nil (t : Int) : has [] t = false := rfl
theorem has_cons (p : Int × Int) (l : List (Int × Int)) (t : Int) : has (p :: l) t = ((decide (p.1 <= t) && decide (t < p.2)) || has l t) := rfl
def size (l : List (Int × Int)) : Int := (l.map fun p => p.2 - p.1).sum
def Canon (l : List (Int × Int)) : Prop := (flat l).Pairwise (· < ·)
def pairs : List Int -> List (Int × Int)
 | x :: y :: l => (x, y) :: pairs l
 | _ => []
theorem form_tail {p : Int × Int} {l : List (Int × Int)} (h : Form (p :: l) (l.length + 1)) : Form l l.length := by
 intro i hi
 have := h (i + 1) (by omega)
 refine ⟨by simpa using this.1, fun h0 => ?_⟩
 have h2 := this.2 (by omega)
 rw [show i + 1 - 1 = (i - 1) + 1 by omega] at h2
 simpa using h2
theorem canon_of_form {l : List (Int × Int)} (h : Form l l.length) : Canon l := by
 unfold Canon
 induction l with
 | nil => exact List.Pairwise.nil
 | cons p l ih =>
   have ih' := ih (form_tail h)
   have h0 := (h 0 (by simp)).1
   simp at h0
   have h1 : ∀ x ∈ flat l, p.2 < x := by
     cases l with
     | nil => simp [flat]
     | cons q l =>
       have hq := (h 1 (by simp)).2 (by omega)
       simp at hq
       rw [flat_cons] at ih' ⊢
       intro x hx
       rw [List.pairwise_cons] at ih'
       simp only [List.mem_cons] at hx
       rcases hx with rfl | hx
       · exact hq
       · have := ih'.1 x (by simpa using hx); omega
   rw [flat_cons, List.pairwise_cons, List.pairwise_cons]
   refine ⟨fun x hx => ?_, h1, ih'⟩
   simp only [List.mem_cons] at hx
   rcases hx with rfl | hx
   · exact h0
   · have := h1 x hx; omega
open Go.RowKit
def IvAt (w : World) (ao : Option Addr) (l : List (Int × Int)) : Prop :=
 l = [] \/ ∃ b off, ao = some ⟨b, off, none⟩ /\ b < w.heap.size /\ ∀ j, j < l.length -> w.cell? ⟨b, off + j * 2, none⟩ = some (.int .i64 (l.getD j (0, 0)).1) /\ w.cell? ⟨b, off + j * 2 + 1, none⟩ = some (.int .i64 (l.getD j (0, 0)).2)
def ZsAt (w : World) (ao : Option Addr) (l : List Int) : Prop :=
 l = [] \/ ∃ b off, ao = some ⟨b, off, none⟩ /\ b < w.heap.size /\ ∀ j, j < l.length -> w.cell? ⟨b, off + j, none⟩ = some (.int .i64 (l.getD j 0))
theorem Tryz.infoInt : (Tryz.prog.info? 3).map (fun i => (i.zero, i.size, i.bytes)) = some (some (.int .i64 0), 1, 8) := by kernel_rfl
theorem Tryz.infoIvl : (Tryz.prog.info? 88).map (fun i => (i.zero, i.size, i.bytes)) = some (some (.agg #[.int .i64 0, .int .i64 0]), 2, 16) := by kernel_rfl
theorem zsAt_of_owns {w : World} {base e : Nat} {v : Value} {n : Nat} {l : List Int} (h : w.ownsRow base e 1 v n (l.map (Value.int .i64))) : ∃ ao cap, v = .slice ao l.length cap /\ ZsAt w ao l := by
 obtain ⟨h1, h2⟩ := h
 simp only [List.length_map, Nat.mul_one] at h1
 subst h1
 rcases h2 with ⟨rfl, h0⟩ | ⟨g, cap, cur, rfl, hb, hh, h3, h4, h5, h6⟩
 · exact ⟨none, 0, by rw [h0], .inl (List.eq_nil_of_length_eq_zero h0)⟩
 · refine ⟨_, cap, rfl, .inr ⟨g, 0, rfl, (Array.getElem?_eq_some_iff.1 hh).1, fun j hj => ?_⟩⟩
   have := World.ownsRow.cellAt (w := w) (base := base) (e := e) (size := 1) (xs := l.map (Value.int .i64)) ⟨by simp, .inr ⟨g, cap, cur, rfl, hb, hh, h3, h4, h5, h6⟩⟩ j (by omega)
   rw [Nat.zero_add, this, List.getElem?_map, List.getD_eq_getElem?_getD, List.getElem?_eq_getElem hj]
   rfl
def encs (l : List (Int × Int)) : List Value := (flat l).map (Value.int .i64)
theorem ivAt_of_owns {w : World} {base e : Nat} {v : Value} {n : Nat} {l : List (Int × Int)} (h : w.ownsRow base e 2 v n (encs l)) : ∃ ao cap, v = .slice ao l.length cap /\ IvAt w ao l := by
 obtain ⟨h1, h2⟩ := h
 simp only [encs, List.length_map, flat_length] at h1
 have hn : n = l.length := by omega
 subst hn
 rcases h2 with ⟨rfl, h0⟩ | ⟨g, cap, cur, rfl, hb, hh, h3, h4, h5, h6⟩
 · exact ⟨none, 0, by rw [h0], .inl (List.eq_nil_of_length_eq_zero h0)⟩
 · have hown : w.ownsRow base e 2 (.slice (some ⟨g, 0, none⟩) l.length cap) l.length (encs l) := ⟨by simp [encs, flat_length]; omega, .inr ⟨g, cap, cur, rfl, hb, hh, h3, h4, h5, h6⟩⟩
   refine ⟨_, cap, rfl, .inr ⟨g, 0, rfl, (Array.getElem?_eq_some_iff.1 hh).1, fun j hj => ?_⟩⟩
   obtain ⟨f0, f1⟩ := flat_getD l j hj
   rw [Nat.zero_add, hown.cellAt (j * 2) (by omega), hown.cellAt (j * 2 + 1) (by omega)]
   simp only [encs, List.getElem?_map, f0, f1]
   exact ⟨rfl, rfl⟩
abbrev Lg := Int × Int × Int × Int
abbrev Ed := Int × Int × List Lg
structure Gr where
 hor : Int
 lives : List (Int × Int)
 edges : List Ed
def inR (n lo hi : Int) : Bool := decide (lo <= n) && decide (n <= hi)
def spanB (a b h : Int) : Bool := decide (0 <= a) && (decide (a < b) && decide (b <= h))
def fitB (l : Lg) (h : Int) : Bool := spanB l.1 l.2.1 h && (inR l.2.2.1 1 50 && inR l.2.2.2 0 1000)
def lgChk (h p : Int) : List Lg -> Int
 | [] => 0
 | l :: ls => if fitB l h = false then 1 else if l.1 < p then 5 else lgChk h l.2.1 ls
def edChk (h n : Int) (e : Ed) : Int := if (inR e.1 0 (n - 1) && inR e.2.1 0 (n - 1)) = false then 4 else if 6 < e.2.2.length then 2 else lgChk h 0 e.2.2
def edsChk (h n : Int) : List Ed -> Int
 | [] => 0
 | e :: es => if edChk h n e = 0 then edsChk h n es else edChk h n e
def lvChk (h : Int) : List (Int × Int) -> Int
 | [] => 0
 | p :: ps => if spanB p.1 p.2 h = true then lvChk h ps else 1
def gChk (g : Gr) : Int :=
 if inR g.hor 1 100 = false then 1 else if 12 < g.lives.length \/ 30 < g.edges.length then 2 else if lvChk g.hor g.lives ≠ 0 then 1 else edsChk g.hor g.lives.length g.edges
def prevTo (l : List Lg) : Nat -> Int
 | 0 => 0
 | k + 1 => (l.getD k (0, 0, 0, 0)).2.1
theorem lg_end {h : Int} {l : List Lg} (hI : lgChk h 0 l = lgChk h (prevTo l l.length) (l.drop l.length)) : lgChk h 0 l = 0 := by
 rw [hI, List.drop_length]; rfl
theorem eds_end {h n : Int} {l : List Ed} (hI : edsChk h n l = edsChk h n (l.drop l.length)) : edsChk h n l = 0 := by
 rw [hI, List.drop_length]; rfl
theorem lv_end {h : Int} {l : List (Int × Int)} (hI : lvChk h l = lvChk h (l.drop l.length)) : lvChk h l = 0 := by
 rw [hI, List.drop_length]; rfl
structure Right (g : Gr) : Prop where
 hor : 1 <= g.hor /\ g.hor <= 100
 lvs : g.lives.length <= 12
 eds : g.edges.length <= 30
 life : ∀ p ∈ g.lives, 0 <= p.1 /\ p.1 < p.2 /\ p.2 <= g.hor
 ends : ∀ e ∈ g.edges, (0 <= e.1 /\ e.1 < g.lives.length) /\ (0 <= e.2.1 /\ e.2.1 < g.lives.length) /\ e.2.2.length <= 6
 legs : ∀ e ∈ g.edges, ∀ l ∈ e.2.2, fitB l g.hor = true
theorem ret_bool {a b : Bool} (h : a = b) : Ending.returned (.bool a) = .returned (.bool b) := by rw [h]
def nrB (x : Int) : Bool := decide (-1000000000 <= x) && decide (x <= 1000000000)
theorem nrB_iff (x : Int) : nrB x = true ↔ nearB x := by unfold nrB nearB; simp only [Bool.and_eq_true, decide_eq_true_eq]
theorem nrB_all_no {l : List Int} {k : Nat} (hk : k < l.length) (h : ¬ nearB l[k]) : l.all nrB = false := by
 rw [<- Bool.not_eq_true, List.all_eq_true]
 intro hh
 exact h ((nrB_iff _).1 (hh l[k] (List.getElem_mem hk)))
theorem nrB_take_succ {l : List Int} {k : Nat} (hk : k < l.length) (h0 : (l.take k).all nrB = true) (h : nearB l[k]) : (l.take (k + 1)).all nrB = true := by
 rw [take_succ_get l k hk, List.all_append, h0]
 simp [(nrB_iff _).2 h]
set_option maxHeartbeats 400000 in
theorem Near_any (ao : Option Addr) (cap : Nat) (l : List Int) (w : World) (hl : ZsAt w ao l) (hn : l.length <= 9223372036854775807) :
   Calls Tryz.prog 50 #[.slice ao l.length cap] w fun e w' => e = .returned (.bool (l.all nrB)) /\ w' = w := by
 go_enter Tryz.func50, Tryz.ntmps50
 go_wp2
 go_loop [7] (fun i => ∃ k : Nat, k <= l.length /\ i = .int .i64 k /\ (l.take k).all nrB = true) (fun i => l.length - (intOf i).toNat)
 case atStart => exact ⟨0, Nat.zero_le _, rfl, rfl⟩
 case round =>
   obtain ⟨k, hk, rfl, hh⟩ := hrel
   have HH : Hid ((l.take k).all nrB = true) := hh
   clear hh
   by_cases hlt : k < l.length
   · rcases hl with h0 | ⟨b, off, rfl, hbw, hc⟩
     · subst h0; simp at hlt
     have c0 := hc k hlt
     have hg : l.getD k 0 = l[k] := by simp [List.getD_eq_getElem?_getD, List.getElem?_eq_getElem hlt]
     rw [hg] at c0
     clear hc hg
     by_cases g1 : l[k] < -1000000000
     · have HC : Hid (l.all nrB = false) := nrB_all_no hlt (by unfold nearB; omega)
       go_wp2
       go_ret
       exact ⟨ret_bool HC.out.symm, rfl⟩
     · by_cases g2 : l[k] > 1000000000
       · have HC : Hid (l.all nrB = false) := nrB_all_no hlt (by unfold nearB; omega)
         go_wp2
         go_ret
         exact ⟨ret_bool HC.out.symm, rfl⟩
       · have HC : Hid ((l.take (k + 1)).all nrB = true) := nrB_take_succ hlt HH.out (by unfold nearB; omega)
         go_wp2
         go_round
         case rel => exact ⟨k + 1, by omega, by go_num, HC.out⟩
         case measure => simp [intOf]; omega
   · have hkl : k = l.length := by omega
     subst hkl
     have HC : Hid (l.all nrB = true) := by have := HH.out; rwa [List.take_length] at this
     go_wp2
     go_ret
     exact ⟨ret_bool HC.out.symm, rfl⟩
def LgAt (w : World) (ao : Option Addr) (m : List Lg) : Prop :=
 m = [] \/ ∃ b off, ao = some ⟨b, off, none⟩ /\ b < w.heap.size /\ ∀ j, j < m.length -> w.cell? ⟨b, off + j * 4, none⟩ = some (.int .i64 (m.getD j (0, 0, 0, 0)).1) /\ w.cell? ⟨b, off + j * 4 + 1, none⟩ = some (.int .i64 (m.getD j (0, 0, 0, 0)).2.1) /\ w.cell? ⟨b, off + j * 4 + 2, none⟩ = some (.int .i64 (m.getD j (0, 0, 0, 0)).2.2.1) /\ w.cell? ⟨b, off + j * 4 + 3, none⟩ = some (.int .i64 (m.getD j (0, 0, 0, 0)).2.2.2)
def EdOne (w : World) (b off : Nat) (e : Ed) : Prop :=
 w.cell? ⟨b, off, none⟩ = some (.int .i64 e.1) /\ w.cell? ⟨b, off + 1, none⟩ = some (.int .i64 e.2.1) /\ ∃ la lc, w.cell? ⟨b, off + 2, none⟩ = some (.slice la e.2.2.length lc) /\ LgAt w la e.2.2 /\ e.2.2.length <= lc /\ lc <= 9223372036854775807
def EdAt (w : World) (ao : Option Addr) (m : List Ed) : Prop :=
 m = [] \/ ∃ b off, ao = some ⟨b, off, none⟩ /\ b < w.heap.size /\ ∀ j (h : j < m.length), EdOne w b (off + j * 3) m[j]
structure GAt (w : World) (la ea : Option Addr) (g : Gr) : Prop where
 lv : IvAt w la g.lives
 ed : EdAt w ea g.edges
 nl : g.lives.length <= 9223372036854775807
 ne : g.edges.length <= 9223372036854775807
open Go.ChangeShapes Go.WideShapes Go.ChangeAt Go.RowKit Go.Deep
theorem Tryz.own : ownKnob Tryz.prog.godebug = none := by kernel_rfl
theorem Tryz.laidOut : laidOutB Tryz.prog = true := by kernel_rfl
theorem Tryz.cellsIvl : Tryz.prog.cellsOf 88 = 2 := by kernel_rfl
theorem Tryz.cellsInt : Tryz.prog.cellsOf 3 = 1 := by kernel_rfl
theorem open_ivs {H : Type} {enc : TypeId × Value -> H} {W : World} {a : Option Addr} {len cap : Nat} {d : DataW H} {ps : List MemPlace}
   (h : DataW.Trod enc Tryz.prog W 0 (fun _ => true) true 22 (.slice a len cap) d ps) : ∃ l : List (Int × Int), l.length = len /\ IvAt W a l /\ len <= cap /\ cap <= 9223372036854775807 := by
 obtain ⟨fuel, hf⟩ := h
 rcases open_slice_pairs Tryz.underlying22 Tryz.underlying88 Tryz.cellsIvl rfl rfl Tryz.cellsInt Tryz.cellsInt hf with ⟨hcs, _⟩ | ⟨x, l, c, m, n, V0, V1, D0, D1, P0, P1, hcs, _, hl, hm, hmm, _, hcell⟩
 · simp [Value.cells] at hcs
   obtain ⟨rfl, rfl, rfl⟩ := hcs
   exact ⟨[], rfl, .inl rfl, Nat.le_refl _, by omega⟩
 · simp [Value.cells] at hcs
   obtain ⟨rfl, rfl, rfl⟩ := hcs
   simp only [if_true] at hmm
   subst hmm
   have each : ∀ i, i < len -> ∃ q : Int × Int, W.cell? (x.add (i * 2)) = some (.int .i64 q.1) /\ W.cell? (x.add (i * 2 + 1)) = some (.int .i64 q.2) := by
     intro i hi
     obtain ⟨h0, h1, t0, t1⟩ := hcell i (by omega)
     obtain ⟨z0, e0, _, _⟩ := DataW.trod_int Tryz.underlying3 t0
     obtain ⟨z1, e1, _, _⟩ := DataW.trod_int Tryz.underlying3 t1
     simp only [List.cons.injEq, and_true] at e0 e1
     exact ⟨(z0, z1), by rw [h0, e0], by rw [h1, e1]⟩
   obtain ⟨q, hq⟩ := choose_lt each
   refine ⟨(List.range len).map q, by simp, ?_, hl, by unfold maxLen at hm; omega⟩
   by_cases h0 : len = 0
   · subst h0; exact .inl (by simp)
   · obtain ⟨b, off, spot⟩ := x
     have hc0 := (hq 0 (by omega)).1
     have hspot : spot = none := by simpa [Addr.add] using World.cell?_spot hc0
     subst hspot
     have hlt := World.block_lt_of_cell? W _ hc0
     refine .inr ⟨b, off, rfl, by simpa [Addr.add] using hlt, fun j hj => ?_⟩
     simp only [List.length_map, List.length_range] at hj
     have hg : ((List.range len).map q).getD j (0, 0) = q j := by simp [List.getD_eq_getElem?_getD, hj]
     rw [hg]
     have := hq j hj
     rw [add_plain, add_plain] at this
     simpa [Nat.add_assoc] using this
theorem Tryz.cellsLeg : Tryz.prog.cellsOf 61 = 4 := by kernel_rfl
theorem Tryz.cellsEdge : Tryz.prog.cellsOf 59 = 3 := by kernel_rfl
theorem Tryz.cellsGraph : Tryz.prog.cellsOf 25 = 3 := by kernel_rfl
theorem Tryz.cellsLegs : Tryz.prog.cellsOf 57 = 1 := by kernel_rfl
theorem Tryz.cellsIvls : Tryz.prog.cellsOf 22 = 1 := by kernel_rfl
theorem Tryz.cellsEdges : Tryz.prog.cellsOf 23 = 1 := by kernel_rfl
theorem open_ivs_c {H : Type} {enc : TypeId × Value -> H} {W : World} {fuel : Nat} {cs : List Value} {d : DataW H} {ps : List MemPlace}
   (hf : DataW.trod enc Tryz.prog W 0 (fun _ => true) true fuel 22 cs = some (d, ps)) : ∃ a cap, ∃ l : List (Int × Int), cs = [.slice a l.length cap] /\ IvAt W a l /\ l.length <= cap /\ cap <= 9223372036854775807 := by
 have h : ∃ a n c, cs = [.slice a n c] := by
   rcases open_slice Tryz.underlying22 hf with ⟨hcs, _⟩ | ⟨x, l, c, m, n, D, Pl, hcs, _⟩
   · exact ⟨_, _, _, hcs⟩
   · exact ⟨_, _, _, hcs⟩
 obtain ⟨a, n, c, rfl⟩ := h
 obtain ⟨l, rfl, h1, h2, h3⟩ := open_ivs (a := a) (len := n) (cap := c) ⟨fuel, hf⟩
 exact ⟨a, c, l, rfl, h1, h2, h3⟩
set_option maxRecDepth 100000 in
theorem open_legs_c {H : Type} {enc : TypeId × Value -> H} {W : World} {fuel : Nat} {cs : List Value} {d : DataW H} {ps : List MemPlace}
   (hf : DataW.trod enc Tryz.prog W 0 (fun _ => true) true fuel 57 cs = some (d, ps)) : ∃ a cap, ∃ l : List Lg, cs = [.slice a l.length cap] /\ LgAt W a l /\ l.length <= cap /\ cap <= 9223372036854775807 := by
 rcases open_slice Tryz.underlying57 hf with ⟨hcs, _⟩ | ⟨x, len, cap, m, n, D, Pl, hcs, _, hl, hm, hmm, _, hx⟩
 · exact ⟨none, 0, [], hcs, .inl rfl, Nat.le_refl _, by omega⟩
 · simp only [if_true] at hmm
   subst hmm
   have each : ∀ i, i < len -> ∃ q : Lg, W.cell? (x.add (i * 4)) = some (.int .i64 q.1) /\ W.cell? (x.add (i * 4 + 1)) = some (.int .i64 q.2.1) /\ W.cell? (x.add (i * 4 + 2)) = some (.int .i64 q.2.2.1) /\ W.cell? (x.add (i * 4 + 3)) = some (.int .i64 q.2.2.2) := by
     intro i hi
     obtain ⟨cs', h1, h2⟩ := hx i (by omega)
     rw [Tryz.cellsLeg] at h1
     obtain ⟨_, hlen, hcell⟩ := World.cells?_some h1
     obtain ⟨xs, k, hk, hxy, _, hxl, hff⟩ := DataW.trod_struct Tryz.underlying61 h2
     match xs, hxl, cs', hlen with
     | [y0, y1, y2, y3], _, [v0, v1, v2, v3], _ =>
       have g0 := hff 0 _ rfl
       have g1 := hff 1 _ rfl
       have g2 := hff 2 _ rfl
       have g3 := hff 3 _ rfl
       simp [Tryz.cellsInt] at g0 g1 g2 g3
       have e0 := hcell 0 (by omega)
       have e1 := hcell 1 (by omega)
       have e2 := hcell 2 (by omega)
       have e3 := hcell 3 (by omega)
       rw [add_add] at e0 e1 e2 e3
       obtain ⟨z0, f0, _, _⟩ := DataW.trod_int Tryz.underlying3 g0
       obtain ⟨z1, f1, _, _⟩ := DataW.trod_int Tryz.underlying3 g1
       obtain ⟨z2, f2, _, _⟩ := DataW.trod_int Tryz.underlying3 g2
       obtain ⟨z3, f3, _, _⟩ := DataW.trod_int Tryz.underlying3 g3
       simp only [List.cons.injEq, and_true] at f0 f1 f2 f3
       subst f0
       subst f1
       subst f2
       subst f3
       exact ⟨(z0, z1, z2, z3), by simpa using e0, by simpa using e1, by simpa using e2, by simpa using e3⟩
   obtain ⟨q, hq⟩ := choose_lt each
   refine ⟨some x, m, (List.range len).map q, by rw [hcs]; simp, ?_, by simpa using hl, by unfold maxLen at hm; omega⟩
   by_cases h0 : len = 0
   · subst h0; exact .inl (by simp)
   · obtain ⟨b, off, spot⟩ := x
     have hc0 := (hq 0 (by omega)).1
     have hspot : spot = none := by simpa [Addr.add] using World.cell?_spot hc0
     subst hspot
     have hlt := World.block_lt_of_cell? W _ hc0
     refine .inr ⟨b, off, rfl, by simpa [Addr.add] using hlt, fun j hj => ?_⟩
     simp only [List.length_map, List.length_range] at hj
     have hg : ((List.range len).map q).getD j (0, 0, 0, 0) = q j := by simp [List.getD_eq_getElem?_getD, hj]
     rw [hg]
     have := hq j hj
     rw [add_plain, add_plain, add_plain, add_plain] at this
     simpa [Nat.add_assoc] using this
set_option maxRecDepth 100000 in
theorem open_eds_c {H : Type} {enc : TypeId × Value -> H} {W : World} {fuel : Nat} {cs : List Value} {d : DataW H} {ps : List MemPlace}
   (hf : DataW.trod enc Tryz.prog W 0 (fun _ => true) true fuel 23 cs = some (d, ps)) : ∃ a cap, ∃ l : List Ed, cs = [.slice a l.length cap] /\ EdAt W a l /\ l.length <= cap /\ cap <= 9223372036854775807 := by
 rcases open_slice Tryz.underlying23 hf with ⟨hcs, _⟩ | ⟨x, len, cap, m, n, D, Pl, hcs, _, hl, hm, hmm, _, hx⟩
 · exact ⟨none, 0, [], hcs, .inl rfl, Nat.le_refl _, by omega⟩
 · simp only [if_true] at hmm
   subst hmm
   have each : ∀ i, i < len -> ∃ q : Ed, W.cell? (x.add (i * 3)) = some (.int .i64 q.1) /\ W.cell? (x.add (i * 3 + 1)) = some (.int .i64 q.2.1) /\ ∃ la lc, W.cell? (x.add (i * 3 + 2)) = some (.slice la q.2.2.length lc) /\ LgAt W la q.2.2 /\ q.2.2.length <= lc /\ lc <= 9223372036854775807 := by
     intro i hi
     obtain ⟨cs', h1, h2⟩ := hx i (by omega)
     rw [Tryz.cellsEdge] at h1
     obtain ⟨_, hlen, hcell⟩ := World.cells?_some h1
     obtain ⟨xs, k, hk, hxy, _, hxl, hff⟩ := DataW.trod_struct Tryz.underlying59 h2
     match xs, hxl, cs', hlen with
     | [y0, y1, y2], _, [v0, v1, v2], _ =>
       have g0 := hff 0 _ rfl
       have g1 := hff 1 _ rfl
       have g2 := hff 2 _ rfl
       simp [Tryz.cellsInt, Tryz.cellsLegs] at g0 g1 g2
       have e0 := hcell 0 (by omega)
       have e1 := hcell 1 (by omega)
       have e2 := hcell 2 (by omega)
       rw [add_add] at e0 e1 e2
       obtain ⟨z0, f0, _, _⟩ := DataW.trod_int Tryz.underlying3 g0
       obtain ⟨z1, f1, _, _⟩ := DataW.trod_int Tryz.underlying3 g1
       obtain ⟨la, lc, ls, f2, hL, hn, hm'⟩ := open_legs_c (d := y2.1) (ps := y2.2) g2
       simp only [List.cons.injEq, and_true] at f0 f1 f2
       subst f0
       subst f1
       subst f2
       exact ⟨(z0, z1, ls), by simpa using e0, by simpa using e1, la, lc, by simpa using e2, hL, hn, hm'⟩
   obtain ⟨q, hq⟩ := choose_lt each
   refine ⟨some x, m, (List.range len).map q, by rw [hcs]; simp, ?_, by simpa using hl, by unfold maxLen at hm; omega⟩
   by_cases h0 : len = 0
   · subst h0; exact .inl (by simp)
   · obtain ⟨b, off, spot⟩ := x
     have hc0 := (hq 0 (by omega)).1
     have hspot : spot = none := by simpa [Addr.add] using World.cell?_spot hc0
     subst hspot
     have hlt := World.block_lt_of_cell? W _ hc0
     refine .inr ⟨b, off, rfl, by simpa [Addr.add] using hlt, fun j hj => ?_⟩
     simp only [List.length_map, List.length_range] at hj
     have hg : ((List.range len).map q)[j]'(by simpa using hj) = q j := by simp
     rw [hg]
     obtain ⟨r0, r1, la, lc, r2, r3⟩ := hq j hj
     rw [add_plain] at r0 r1 r2
     exact ⟨by simpa [Nat.add_assoc] using r0, by simpa [Nat.add_assoc] using r1, la, lc, by simpa [Nat.add_assoc] using r2, r3⟩
theorem three_ofG {α : Type} {cs : Array α} (h : cs.size = 3) : ∃ x y z, cs = #[x, y, z] := by
 obtain ⟨l⟩ := cs
 match l, h with
 | [x, y, z], _ => exact ⟨x, y, z, rfl⟩
set_option maxRecDepth 100000 in
theorem open_graph {H : Type} {enc : TypeId × Value -> H} {W : World} {r : Reach} {b0 : Nat} {v : Value} {d : DataW H} {ps : List MemPlace}
   (hv : Value.okWide Tryz.prog W r b0 25 v) (h : DataW.Trod enc Tryz.prog W 0 (fun _ => true) true 25 v d ps) :
   ∃ (g : Gr) (la ea : Option Addr) (lc ec : Nat), v = .agg #[.int .i64 g.hor, .slice la g.lives.length lc, .slice ea g.edges.length ec] /\ GAt W la ea g /\ g.lives.length <= lc /\ lc <= 9223372036854775807 := by
 obtain ⟨cs, rfl, hsz⟩ := okWide_struct Tryz.underlying25 hv
 obtain ⟨v0, v1, v2, rfl⟩ := three_ofG (hsz.trans Tryz.cellsGraph)
 obtain ⟨fuel, h2⟩ := h
 obtain ⟨xs, k, hk, hxy, _, hxl, hff⟩ := DataW.trod_struct Tryz.underlying25 h2
 match xs, hxl with
 | [y0, y1, y2], _ =>
   have g0 := hff 0 _ rfl
   have g1 := hff 1 _ rfl
   have g2 := hff 2 _ rfl
   simp [Tryz.cellsInt, Tryz.cellsIvls, Tryz.cellsEdges, Value.cells] at g0 g1 g2
   obtain ⟨z0, f0, _, _⟩ := DataW.trod_int Tryz.underlying3 g0
   obtain ⟨la, lc, ls, f1, hL, hn, hm⟩ := open_ivs_c (d := y1.1) (ps := y1.2) g1
   obtain ⟨ea, ec, es, f2, hE, hn2, hm2⟩ := open_eds_c (d := y2.1) (ps := y2.2) g2
   simp only [List.cons.injEq, and_true] at f0 f1 f2
   subst f0
   subst f1
   subst f2
   exact ⟨⟨z0, ls, es⟩, la, ea, lc, ec, rfl, ⟨hL, hE, by simp only; omega, by simp only; omega⟩, hn, hm⟩
open Go.ChangeShapes Go.WideShapes Go.ChangeAt Go.RowKit Go.Deep Sim
def Lie (W : World) (a : Option Addr) (len cap : Nat) : Prop := a = none \/ (len = 0 /\ cap = 0) \/ ∃ b off c t f, a = some ⟨b, off, none⟩ /\ W.heap[b]? = some (.cells c t f)
theorem cells_of_cell {W : World} {a : Addr} {v : Value} (h : W.cell? a = some v) : ∃ c t f, W.heap[a.block]? = some (.cells c t f) /\ c[a.off]? = some v := by
 have hs := World.cell?_spot h
 unfold World.cell? at h
 split at h
 · rename_i c t f hb
   refine ⟨c, t, f, hb, ?_⟩
   simpa [hs] using h
 · cases h
theorem lie_slice {H : Type} {enc : TypeId × Value -> H} {W : World} {fuel : Nat} {t e : TypeId} {a : Option Addr} {len cap : Nat} {x : DataW H × List MemPlace} (ht : Tryz.prog.underlying t = some (.slice e)) (hk : 0 < Tryz.prog.cellsOf e)
   (hf : DataW.trod enc Tryz.prog W 0 (fun _ => true) true fuel t [.slice a len cap] = some x) : Lie W a len cap := by
 rcases open_slice ht hf with ⟨hcs, _⟩ | ⟨p, l, c, m, n, D, Pl, hcs, _, hl, hm, hmm, _, hx⟩
 · cases hcs; exact .inl rfl
 · cases hcs
   simp only [if_true] at hmm
   subst hmm
   by_cases h0 : m = 0
   · exact .inr (.inl ⟨by omega, h0⟩)
   · obtain ⟨cs', h1, _⟩ := hx 0 (by omega)
     obtain ⟨_, hlen, hcell⟩ := World.cells?_some h1
     have h2 := hcell 0 hk
     rw [List.getElem?_eq_getElem (by omega)] at h2
     have hs := World.cell?_spot h2
     obtain ⟨c3, t', f, h3, _⟩ := cells_of_cell h2
     obtain ⟨b, off, spot⟩ := p
     simp [Addr.add] at hs h3
     subst hs
     exact .inr (.inr ⟨b, off, c3, t', f, rfl, h3⟩)
def rowOf (n : Nat) (f : Nat -> Value) : Obj := .cells ((List.range n).map f).toArray noType (0, n)
theorem rowOf_get {n : Nat} {f : Nat -> Value} {i : Nat} {v : Value} (h : ((List.range n).map f).toArray[i]? = some v) : i < n /\ v = f i := by
 simp at h
 obtain ⟨a, h1, rfl⟩ := h
 have : i < n /\ i = a := by
   rcases List.getElem?_eq_some_iff.1 h1 with ⟨h2, h3⟩
   simp at h2 h3
   exact ⟨h2, h3⟩
 exact ⟨this.1, by rw [this.2]⟩
def ent (W : World) (a : Option Addr) : Option Ent := match a with
 | some ⟨b, off, none⟩ => if isCells W b then some ⟨b, off, false⟩ else none
 | _ => none
theorem ent_own {W : World} {a : Option Addr} {e : Ent} (h : ent W a = some e) : e.own = false /\ a = some ⟨e.blk, e.sh, none⟩ /\ isCells W e.blk = true := by
 unfold ent at h
 split at h
 · rename_i b off
   split at h
   · rename_i hc; cases h; exact ⟨rfl, rfl, hc⟩
   · cases h
 · cases h
theorem ent_cells {W : World} {b off : Nat} {c : Array Value} {t : TypeId} {f : Nat × Nat} (h : W.heap[b]? = some (.cells c t f)) : ent W (some ⟨b, off, none⟩) = some ⟨b, off, false⟩ := by
 unfold ent
 simp only
 rw [if_pos (by unfold isCells; rw [h])]
def at0 (k : Nat) (a : Option Addr) : Option Addr := a.map fun _ => ⟨k, 0, none⟩
theorem at0_rel {F : FuncId -> Prop} {ρ : Ren} {W : World} {a : Option Addr} {len cap k : Nat} (hρ : ρ k = ent W a) (hl : Lie W a len cap) : VRel F ρ (.slice (at0 k a) len cap) (.slice a len cap) := by
 rcases hl with rfl | ⟨rfl, rfl⟩ | ⟨b, off, c, t, f, rfl, hc⟩
 · exact .nilSlice _ _
 · cases a with
   | none => exact .nilSlice _ _
   | some a => exact .void _ _
 · exact .slice _ _ ⟨⟨b, off, false⟩, by rw [hρ]; exact ent_cells hc, rfl, by simp⟩
theorem row_rel {F : FuncId -> Prop} {ρ : Ren} {s W : World} {a : Option Addr} {k n : Nat} {f : Nat -> Value} {e : Ent} (hs : s.heap[k]? = some (rowOf n f)) (he : ent W a = some e) (hv : ∀ b off, a = some ⟨b, off, none⟩ -> ∀ i, i < n -> ∃ v', W.cell? ⟨b, off + i, none⟩ = some v' /\ VRel F ρ (f i) v') : BRel F ρ s W k e := by
 obtain ⟨h1, h2, h3⟩ := ent_own he
 obtain ⟨blk, sh, own⟩ := e
 simp only at h1 h2 h3
 subst h1
 unfold isCells at h3
 split at h3
 · rename_i c t fr hb
   refine .inl ⟨_, noType, (0, n), c, t, fr, hs, hb, fun i v hiv => ?_, fun h => (by cases h), fun _ => ⟨by simp, rfl⟩⟩
   obtain ⟨hi, rfl⟩ := rowOf_get hiv
   obtain ⟨v', h4, h5⟩ := hv blk sh h2 i hi
   obtain ⟨c2, t2, f2, h6, h7⟩ := cells_of_cell h4
   simp only at h6 h7
   rw [hb] at h6
   cases h6
   exact ⟨v', by rw [Nat.add_comm]; exact h7, h5⟩
 · cases h3
set_option maxRecDepth 100000 in
theorem eds_lie {H : Type} {enc : TypeId × Value -> H} {W : World} {fuel : Nat} {a : Option Addr} {len cap : Nat} {x : DataW H × List MemPlace}
   (hf : DataW.trod enc Tryz.prog W 0 (fun _ => true) true fuel 23 [.slice a len cap] = some x) (b off : Nat) (ha : a = some ⟨b, off, none⟩) (j : Nat) (hj : j < len) (l : Option Addr) (n c : Nat) (hc : W.cell? ⟨b, off + j * 3 + 2, none⟩ = some (.slice l n c)) : Lie W l n c := by
 rcases open_slice Tryz.underlying23 hf with ⟨hcs, _⟩ | ⟨p, l', c', m, nn, D, Pl, hcs, _, hl, hm, hmm, _, hx⟩
 · cases hcs; cases ha
 · cases hcs
   cases ha
   simp only [if_true] at hmm
   subst hmm
   obtain ⟨cs', h1, h2⟩ := hx j (by omega)
   rw [Tryz.cellsEdge] at h1
   obtain ⟨_, hlen, hcell⟩ := World.cells?_some h1
   obtain ⟨xs, k, hk, hxy, _, hxl, hff⟩ := DataW.trod_struct Tryz.underlying59 h2
   match xs, hxl, cs', hlen with
   | [y0, y1, y2], _, [v0, v1, v2], _ =>
     have g2 := hff 2 _ rfl
     simp [Tryz.cellsLegs] at g2
     have e2 := hcell 2 (by omega)
     rw [add_add, add_plain] at e2
     have e3 : W.cell? ⟨b, off + j * 3 + 2, none⟩ = some v2 := by simpa [Nat.add_assoc] using e2
     rw [hc] at e3
     cases e3
     exact lie_slice Tryz.underlying57 (by rw [Tryz.cellsLeg]; omega) g2
def iv2 (l : List (Int × Int)) (i : Nat) : Value := .int .i64 (if i % 2 = 0 then (l.getD (i / 2) (0, 0)).1 else (l.getD (i / 2) (0, 0)).2)
def lg4 (l : List Lg) (i : Nat) : Value := .int .i64 (if i % 4 = 0 then (l.getD (i / 4) (0, 0, 0, 0)).1 else if i % 4 = 1 then (l.getD (i / 4) (0, 0, 0, 0)).2.1 else if i % 4 = 2 then (l.getD (i / 4) (0, 0, 0, 0)).2.2.1 else (l.getD (i / 4) (0, 0, 0, 0)).2.2.2)
def ed3 (l : List Ed) (L : Nat -> Option Addr) (C : Nat -> Nat) (i : Nat) : Value :=
 if i % 3 = 0 then .int .i64 (l.getD (i / 3) (0, 0, [])).1 else if i % 3 = 1 then .int .i64 (l.getD (i / 3) (0, 0, [])).2.1 else .slice (at0 (2 + i / 3) (L (i / 3))) (l.getD (i / 3) (0, 0, [])).2.2.length (C (i / 3))
def heapG (g : Gr) (L : Nat -> Option Addr) (C : Nat -> Nat) : Array Obj :=
 ([rowOf (2 * g.lives.length) (iv2 g.lives), rowOf (3 * g.edges.length) (ed3 g.edges L C)] ++ (List.range g.edges.length).map fun j => rowOf (4 * (g.edges.getD j (0, 0, [])).2.2.length) (lg4 (g.edges.getD j (0, 0, [])).2.2)).toArray
def renG (W : World) (g : Gr) (la ea : Option Addr) (L : Nat -> Option Addr) : Ren := fun b =>
 if b = 0 then ent W la else if b = 1 then ent W ea else if b - 2 < g.edges.length then ent W (L (b - 2)) else none
theorem heapG_0 (g : Gr) (L : Nat -> Option Addr) (C : Nat -> Nat) : (heapG g L C)[0]? = some (rowOf (2 * g.lives.length) (iv2 g.lives)) := by simp [heapG]
theorem heapG_1 (g : Gr) (L : Nat -> Option Addr) (C : Nat -> Nat) : (heapG g L C)[1]? = some (rowOf (3 * g.edges.length) (ed3 g.edges L C)) := by simp [heapG]
theorem heapG_2 (g : Gr) (L : Nat -> Option Addr) (C : Nat -> Nat) {j : Nat} (hj : j < g.edges.length) : (heapG g L C)[2 + j]? = some (rowOf (4 * (g.edges.getD j (0, 0, [])).2.2.length) (lg4 (g.edges.getD j (0, 0, [])).2.2)) := by
 rw [Nat.add_comm]
 simp [heapG, hj]
theorem row_cell {s : World} {k n : Nat} {f : Nat -> Value} (h : s.heap[k]? = some (rowOf n f)) {i : Nat} (hi : i < n) : s.cell? ⟨k, i, none⟩ = some (f i) := by
 simp [World.cell?, h, rowOf, hi]
theorem shadow_graph {F : FuncId -> Prop} (W : World) (g : Gr) (la ea : Option Addr) (lc ec : Nat) (hG : GAt W la ea g) (hla : Lie W la g.lives.length lc) (hea : Lie W ea g.edges.length ec)
   (hlegs : ∀ b off, ea = some ⟨b, off, none⟩ -> ∀ j, j < g.edges.length -> ∀ l n c, W.cell? ⟨b, off + j * 3 + 2, none⟩ = some (.slice l n c) -> Lie W l n c) :
   ∃ (ρ : Ren) (H : Array Obj) (la0 ea0 : Option Addr), WRel F ρ { W with heap := H } W /\ (∀ b e, ρ b = some e -> e.own = false) /\
     VRel F ρ (.agg #[.int .i64 g.hor, .slice la0 g.lives.length lc, .slice ea0 g.edges.length ec]) (.agg #[.int .i64 g.hor, .slice la g.lives.length lc, .slice ea g.edges.length ec]) /\ GAt { W with heap := H } la0 ea0 g := by
 obtain ⟨L, C, hLC⟩ : ∃ (L : Nat -> Option Addr) (C : Nat -> Nat), ∀ b off, ea = some ⟨b, off, none⟩ -> ∀ j (hj : j < g.edges.length),
     W.cell? ⟨b, off + j * 3, none⟩ = some (.int .i64 g.edges[j].1) /\ W.cell? ⟨b, off + j * 3 + 1, none⟩ = some (.int .i64 g.edges[j].2.1) /\ W.cell? ⟨b, off + j * 3 + 2, none⟩ = some (.slice (L j) g.edges[j].2.2.length (C j)) /\ LgAt W (L j) g.edges[j].2.2 /\ g.edges[j].2.2.length <= C j /\ C j <= 9223372036854775807 := by
   rcases hG.ed with h0 | ⟨b, off, rfl, hlt, hc⟩
   · exact ⟨fun _ => none, fun _ => 0, fun b off _ j hj => by rw [h0] at hj; simp at hj⟩
   · refine ⟨fun j => if hj : j < g.edges.length then Classical.choose (hc j hj).2.2 else none, fun j => if hj : j < g.edges.length then Classical.choose (Classical.choose_spec (hc j hj).2.2) else 0, fun b' off' he j hj => ?_⟩
     simp only [Option.some.injEq, Addr.mk.injEq] at he
     obtain ⟨rfl, rfl, _⟩ := he
     simp only [dif_pos hj]
     have := Classical.choose_spec (Classical.choose_spec (hc j hj).2.2)
     exact ⟨(hc j hj).1, (hc j hj).2.1, this⟩
 have hg : ∀ j (hj : j < g.edges.length), g.edges.getD j (0, 0, []) = g.edges[j] := fun j hj => by rw [List.getD_eq_getElem?_getD, List.getElem?_eq_getElem hj]; rfl
 have r0 : renG W g la ea L 0 = ent W la := rfl
 have r1 : renG W g la ea L 1 = ent W ea := rfl
 have r2 : ∀ j, j < g.edges.length -> renG W g la ea L (2 + j) = ent W (L j) := fun j hj => by
   unfold renG
   rw [if_neg (by omega), if_neg (by omega), show 2 + j - 2 = j by omega, if_pos hj]
 refine ⟨renG W g la ea L, heapG g L C, at0 0 la, at0 1 ea, ⟨fun b e hb => ?_, fun b1 b2 e1 e2 h1 h2 _ ho => ?_⟩, fun b e hb => ?_, ?_, ?_⟩
 · unfold renG at hb
   split at hb
   · rename_i hb0; subst hb0
     refine row_rel (heapG_0 g L C) hb (fun b off ha i hi => ?_)
     rcases hG.lv with h0 | ⟨b', off', he, hlt, hc⟩
     · rw [h0] at hi; simp at hi
     · rw [he] at ha; cases ha
       obtain ⟨k1, k2⟩ := hc (i / 2) (by omega)
       unfold iv2
       rcases Nat.mod_two_eq_zero_or_one i with hm | hm
       · rw [if_pos hm]; exact ⟨_, by rw [show off + i = off + i / 2 * 2 by omega]; exact k1, .int _ _⟩
       · rw [if_neg (by omega)]; exact ⟨_, by rw [show off + i = off + i / 2 * 2 + 1 by omega]; exact k2, .int _ _⟩
   · split at hb
     · rename_i hb0; subst hb0
       refine row_rel (heapG_1 g L C) hb (fun b off ha i hi => ?_)
       have hj : i / 3 < g.edges.length := by omega
       obtain ⟨k1, k2, k3, _⟩ := hLC b off ha (i / 3) hj
       unfold ed3
       rw [hg _ hj]
       by_cases m0 : i % 3 = 0
       · rw [if_pos m0]; exact ⟨_, by rw [show off + i = off + i / 3 * 3 by omega]; exact k1, .int _ _⟩
       · rw [if_neg m0]
         by_cases m1 : i % 3 = 1
         · rw [if_pos m1]; exact ⟨_, by rw [show off + i = off + i / 3 * 3 + 1 by omega]; exact k2, .int _ _⟩
         · rw [if_neg m1]; exact ⟨_, by rw [show off + i = off + i / 3 * 3 + 2 by omega]; exact k3, at0_rel (r2 _ hj) (hlegs b off ha _ hj _ _ _ k3)⟩
     · split at hb
       · rename_i n0 n1 hj
         obtain ⟨j, rfl⟩ : ∃ j, b = 2 + j := ⟨b - 2, by omega⟩
         rw [show 2 + j - 2 = j by omega] at hb hj
         refine row_rel (heapG_2 g L C hj) hb (fun b off ha i hi => ?_)
         rw [hg _ hj] at hi ⊢
         have hea' : ∃ b0 o0, ea = some ⟨b0, o0, none⟩ := by
           rcases hG.ed with h0 | ⟨b, off, rfl, _⟩
           · rw [h0] at hj; simp at hj
           · exact ⟨_, _, rfl⟩
         obtain ⟨b0, o0, hea'⟩ := hea'
         obtain ⟨_, _, _, hL, _⟩ := hLC b0 o0 hea' j hj
         rcases hL with h0 | ⟨b', off', he, hlt, hc⟩
         · rw [h0] at hi; simp at hi
         · rw [he] at ha; cases ha
           obtain ⟨k1, k2, k3, k4⟩ := hc (i / 4) (by omega)
           unfold lg4
           by_cases m0 : i % 4 = 0
           · rw [if_pos m0]; exact ⟨_, by rw [show off + i = off + i / 4 * 4 by omega]; exact k1, .int _ _⟩
           · rw [if_neg m0]
             by_cases m1 : i % 4 = 1
             · rw [if_pos m1]; exact ⟨_, by rw [show off + i = off + i / 4 * 4 + 1 by omega]; exact k2, .int _ _⟩
             · rw [if_neg m1]
               by_cases m2 : i % 4 = 2
               · rw [if_pos m2]; exact ⟨_, by rw [show off + i = off + i / 4 * 4 + 2 by omega]; exact k3, .int _ _⟩
               · rw [if_neg m2]; exact ⟨_, by rw [show off + i = off + i / 4 * 4 + 3 by omega]; exact k4, .int _ _⟩
       · cases hb
 · exfalso
   have : e1.own = false := by
     unfold renG at h1
     split at h1
     · exact (ent_own h1).1
     · split at h1
       · exact (ent_own h1).1
       · split at h1
         · exact (ent_own h1).1
         · cases h1
   rw [this] at ho
   cases ho
 · unfold renG at hb
   split at hb
   · exact (ent_own hb).1
   · split at hb
     · exact (ent_own hb).1
     · split at hb
       · exact (ent_own hb).1
       · cases hb
 · refine .agg rfl fun i v v' hv hv' => ?_
   match i with
   | 0 => cases hv; cases hv'; exact .int _ _
   | 1 => cases hv; cases hv'; exact at0_rel r0 hla
   | 2 => cases hv; cases hv'; exact at0_rel r1 hea
   | i + 3 => simp at hv
 · refine ⟨?_, ?_, hG.nl, hG.ne⟩
   · rcases hG.lv with h0 | ⟨b', off', rfl, hlt, hc⟩
     · exact .inl h0
     · refine .inr ⟨0, 0, rfl, (Array.getElem?_eq_some_iff.1 (heapG_0 g L C)).1, fun j hj => ⟨?_, ?_⟩⟩
       · rw [row_cell (f := iv2 g.lives) (heapG_0 g L C) (by omega)]
         unfold iv2
         rw [if_pos (by omega), show (0 + j * 2) / 2 = j by omega]
       · rw [row_cell (f := iv2 g.lives) (heapG_0 g L C) (by omega)]
         unfold iv2
         rw [if_neg (by omega), show (0 + j * 2 + 1) / 2 = j by omega]
   · rcases hG.ed with h0 | ⟨b', off', hea', hlt, hc⟩
     · exact .inl h0
     · rw [hea']
       refine .inr ⟨1, 0, rfl, (Array.getElem?_eq_some_iff.1 (heapG_1 g L C)).1, fun j hj => ?_⟩
       obtain ⟨_, _, _, hL, hn, hm⟩ := hLC b' off' hea' j hj
       refine ⟨?_, ?_, at0 (2 + j) (L j), C j, ?_, ?_, hn, hm⟩
       · rw [row_cell (f := ed3 g.edges L C) (heapG_1 g L C) (by omega)]
         unfold ed3
         rw [if_pos (by omega), show (0 + j * 3) / 3 = j by omega, hg j hj]
       · rw [row_cell (f := ed3 g.edges L C) (heapG_1 g L C) (by omega)]
         unfold ed3
         rw [if_neg (by omega), if_pos (by omega), show (0 + j * 3 + 1) / 3 = j by omega, hg j hj]
       · rw [row_cell (f := ed3 g.edges L C) (heapG_1 g L C) (by omega)]
         unfold ed3
         rw [if_neg (by omega), if_neg (by omega), show (0 + j * 3 + 2) / 3 = j by omega, hg j hj]
       · rcases hL with h0 | ⟨b2, off2, he2, hlt2, hc2⟩
         · exact .inl h0
         · rw [he2]
           have hh := heapG_2 g L C hj
           rw [hg j hj] at hh
           refine .inr ⟨2 + j, 0, rfl, (Array.getElem?_eq_some_iff.1 hh).1, fun k hk => ⟨?_, ?_, ?_, ?_⟩⟩
           · rw [row_cell (f := lg4 g.edges[j].2.2) hh (by omega)]
             unfold lg4
             rw [if_pos (by omega), show (0 + k * 4) / 4 = k by omega]
           · rw [row_cell (f := lg4 g.edges[j].2.2) hh (by omega)]
             unfold lg4
             rw [if_neg (by omega), if_pos (by omega), show (0 + k * 4 + 1) / 4 = k by omega]
           · rw [row_cell (f := lg4 g.edges[j].2.2) hh (by omega)]
             unfold lg4
             rw [if_neg (by omega), if_neg (by omega), if_pos (by omega), show (0 + k * 4 + 2) / 4 = k by omega]
           · rw [row_cell (f := lg4 g.edges[j].2.2) hh (by omega)]
             unfold lg4
             rw [if_neg (by omega), if_neg (by omega), if_neg (by omega), show (0 + k * 4 + 3) / 4 = k by omega]
end Go.Proofs.YthgelfnflafoiaeGreat
namespace Go.Proofs.YthgelfnflafoiaeGreat
namespace Crw
open Go.Conc Go.ConcN Sim Go.RowKit
theorem frz_tp (F : FuncId -> Prop) (θ : Ren) (s : World) (τ : Nat -> Question -> Nat) (d : Nat) : frz F θ (tp s τ d) = tp (frz F θ s) τ d := rfl
theorem Ready.of_tp {s : World} {τ : Nat -> Question -> Nat} {d : Nat} {x y z : Value} (h : Ready (tp s τ d) x y z) : Ready s x y z := by
 obtain ⟨na, nl, nc, pa, pl, pc, n, h1, h2, h3, h4, h5, h6, h7, h8⟩ := h
 refine ⟨na, nl, nc, pa, pl, pc, n, h1, h2, h3, h4, h5, h6, h7, fun θ w x' y' hw hx hy i hi τ' d' => ?_⟩
 have := h8 θ w x' y' (hw.of_heap rfl rfl) hx hy i hi τ' d'
 rw [frz_tp, tp_tp] at this
 exact this
def DeadAt (w' : World) : Prop := ∃ (Hh : Array Obj) (x y z : Value), w'.heap = (Hh.push (.cells #[.int .i64 1] 3)).push (.cells #[clo x y z] 3) /\ Ready { w' with heap := Hh } x y z
theorem wqD_heap (s : World) (x y z : Value) : (wqD s x y z).heap = (s.heap.push (.cells #[.int .i64 1] 3)).push (.cells #[clo x y z] 3) := by
 show ((wq3 s).heap.push _) = _
 congr 1
 have h2 : (wq2 s).heap = s.heap.push (.cells #[.int .i64 0] 3) := rfl
 have h3 : (wq2 s).heap[s.heap.size]? = some (.cells #[.int .i64 0] 3) := by rw [h2]; simp
 apply Array.ext_getElem?
 intro i
 by_cases h : i = s.heap.size
 · subst h
   show ((wq2 s).setCell ⟨s.heap.size, 0, none⟩ (.int .i64 1)).heap[s.heap.size]? = _
   rw [setCell_this h3]
   simp
 · show ((wq2 s).setCell ⟨s.heap.size, 0, none⟩ (.int .i64 1)).heap[i]? = _
   rw [setCell_other (Ne.symm h), h2, Array.getElem?_push, Array.getElem?_push, if_neg h, if_neg h]
theorem ready_of_dead {s : World} {x y z : Value} (h : DeadAt (wqD s x y z)) : Ready s x y z := by
 obtain ⟨Hh, x', y', z', h1, h2⟩ := h
 rw [wqD_heap] at h1
 obtain ⟨h3, h4⟩ := Array.push_eq_push.1 h1
 obtain ⟨_, h5⟩ := Array.push_eq_push.1 h4
 have h6 : clo x y z = clo x' y' z' := by
   simp only [Obj.cells.injEq] at h3
   have := h3.1
   simpa using this
 simp only [clo, Value.func.injEq, true_and] at h6
 have h7 : x = x' /\ y = y' /\ z = z' := by simpa using h6
 obtain ⟨rfl, rfl, rfl⟩ := h7
 subst h5
 exact Ready.of_tp (τ := s.tape) (d := s.drawn + 1) h2
theorem law_ends {fl : FuncId} {W : World} {H : Array Obj} {x0 args : Array Value} {ρ : Ren} {Post : Value -> World -> Prop} (hrel : WRel (Fp Fv) ρ { W with heap := H } W) (hown : ∀ b e, ρ b = some e -> e.own = false) (hx : AVRel (Fp Fv) ρ x0 args) (hfl : Fv fl = true)
   (hC : ∀ τ d, Calls Seq.prog fl x0 (tp { W with heap := H } τ d) fun e w' => e = .returned (.bool true) \/ (¬ Zt zqs τ /\ ∃ ch, e = .panicked ch /\ DeadAt w'))
   (hPost : ∀ w', Below W.heap.size W w' -> Post (.bool true) w') : Ends Tryz.prog Post (crowd #[G (Frame.enter Tryz.prog fl args .normal) []] W none) #[] := by
 obtain ⟨H1, hF1, Hv, hFv, H0, hF0, hsp, _⟩ := fq
 have hnq : fl ≠ Tryz.prog.funcs.size := fun e => by
   have h := hsp.1
   rw [<- e, show Fq fl = true from fv_fq _ hfl] at h
   cases h
 have hns : fl ≠ 39 := fun e => by rw [e, fv_out] at hfl; cases hfl
 have hwf0 : WF Seq.prog Fq Tryz.prog.funcs.size [Frame.enter Seq.prog fl x0 .normal] { W with heap := H } :=
   ⟨ρ, [Frame.enter Seq.prog fl args .normal], W, .cons (FRel.enter hF0 (fv_fq _ hfl) hnq (AVRel.fmono fv_fq hx)) .nil, WRel.fmono fv_fq hrel⟩
 have hB : BarZ Seq.prog zqs (RetQ Seq.prog (fun v => v = .bool true)) [Frame.enter Seq.prog fl x0 .normal] { W with heap := H } :=
   barZ_call H0 hF0 hsp hwf0 fun τ d hz => (hC τ d).mono fun e w' h => ⟨.bool true, h.resolve_right fun h => h.1 hz, rfl⟩
 have hPre : ∀ x y z cs s, Rec Seq.prog [Frame.enter Seq.prog fl x0 .normal] { W with heap := H } (Frame.enter Seq.prog 39 #[x, y, z] .normal :: cs) s -> Ready s x y z := by
   intro x y z cs s hrec
   obtain ⟨ch, τ, d, hR⟩ := pre_of (R := fun e w' => e = .returned (.bool true) \/ ∃ ch, e = .panicked ch /\ DeadAt w') (fun τ => (hC τ 0).mono fun e w' h => h.imp id fun h => h.2) (fun w' h => by
     rcases h with h | ⟨_, h, _⟩ <;> cases h) hwf0 hrec
   rcases hR with h | ⟨ch', _, h⟩
   · cases h
   · exact (ready_of_dead h).of_tp
 refine outer (w0 := W) (Q := fun v => v = .bool true) hwf0 hPre (fun v v' θ w' hv hr hk => ?_) hB hwf0 (Rec.start _ _ _) #[G (Frame.enter Tryz.prog fl args .normal) []] (fun _ => 0) W #[] none (fun _ => False) ρ _ [] rfl (fr_first _ _ _) (.inl (.cons (FRel.enter hF1 hfl hns hx) .nil)) hrel (fun _ _ _ h => h)
   ⟨Nat.le_refl _, fun _ _ => rfl, fun b e hb ho => (by rw [hown b e hb] at ho; cases ho), ⟨rfl, rfl, rfl⟩⟩
 subst hv
 cases hr
 exact hPost w' ⟨hk.out.1, hk.out.2.2, hk.out.2.1, hk.size, hk.keep⟩
end Crw
end Go.Proofs.YthgelfnflafoiaeGreat
namespace Go.Proofs.YthgelfnflafoiaeGreat
open Go.ChangeShapes Go.WideShapes Go.ChangeAt Go.RowKit Go.Deep Sim
set_option maxRecDepth 100000 in
theorem graph_lie {H : Type} {enc : TypeId × Value -> H} {W : World} {z : Int} {la ea : Option Addr} {n lc m ec : Nat} {d : DataW H} {ps : List MemPlace}
   (h : DataW.Trod enc Tryz.prog W 0 (fun _ => true) true 25 (.agg #[.int .i64 z, .slice la n lc, .slice ea m ec]) d ps) :
   Lie W la n lc /\ Lie W ea m ec /\ ∀ b off, ea = some ⟨b, off, none⟩ -> ∀ j, j < m -> ∀ l k c, W.cell? ⟨b, off + j * 3 + 2, none⟩ = some (.slice l k c) -> Lie W l k c := by
 obtain ⟨fuel, h2⟩ := h
 obtain ⟨xs, k, hk, hxy, _, hxl, hff⟩ := DataW.trod_struct Tryz.underlying25 h2
 match xs, hxl with
 | [y0, y1, y2], _ =>
   have g1 := hff 1 _ rfl
   have g2 := hff 2 _ rfl
   simp [Tryz.cellsIvls, Tryz.cellsEdges, Value.cells] at g1 g2
   exact ⟨lie_slice Tryz.underlying22 (by rw [Tryz.cellsIvl]; omega) g1, lie_slice Tryz.underlying23 (by rw [Tryz.cellsEdge]; omega) g2, fun b off ha j hj l k c hc => eds_lie g2 b off ha j hj l k c hc⟩
open Go.ChangeShapes Go.WideShapes Go.ChangeAt Go.RowKit Go.Conc Go.ConcR Sim Crw
def BspWorkersWalk : Prop := ∀ (g0 : Gr) (la ea : Option Addr) (lc0 ec0 : Nat) (t1 t2 t3 t4 : Int) (s : World), GAt s la ea g0 -> Calls Seq.prog 4 #[.agg #[.int .i64 g0.hor, .slice la g0.lives.length lc0, .slice ea g0.edges.length ec0], .int .i64 t1, .int .i64 t2, .int .i64 t3, .int .i64 t4] s fun e w' => e = .returned (.bool true) \/ (¬ Zt zqs s.tape /\ ∃ ch, e = .panicked ch /\ DeadAt w')
theorem bspWorkers_known : Fv 4 = true := by kernel_rfl
set_option maxRecDepth 100000 in
theorem bspWorkers_lifted (hwalk : BspWorkersWalk) (os : Os) (started : os.Started) (H : Type) (enc : TypeId × Value -> H) :
   ReturnsInLeavingWide {} Tryz.checked os 4 .any (Rows.bspWorkersSpec.pre6 enc Tryz.prog Tryz.f4 Rows.bspWorkersRow.domain false) (Rows.bspWorkersSpec.post enc Tryz.prog Tryz.f4 false true false false) := by
 refine returnsInLeavingWide_of_change_sized (C := Tryz.checked) Tryz.own started Tryz.func4
   (ChangeSpec.witness6 (enc := enc) (C := Tryz.checked) false ⟨#[], #[.agg #[.int .i64 0, .slice none 0 0, .slice none 0 0], .int .i64 0, .int .i64 0, .int .i64 0, .int .i64 0], []⟩ 8 (by kernel_rfl) (by kernel_rfl) (by kernel_rfl) (by kernel_rfl)) ?_
 intro W base args ds gs before hval0 hW _ _ _
 have hval : ∀ (j : Nat) t v, Tryz.f4.params[j]? = some t -> args[j]? = some v -> Value.okWide Tryz.prog W .any base t v := hval0
 have hW' := hW
 obtain ⟨p, q, hA0, hV, rfl, hfz, hnd⟩ := hW
 have hA : DataW.TrodAll enc Tryz.prog W 0 (fun _ => true) true Tryz.f4.params.toList args.toList ds p := hA0
 rw [Tryz.params4] at hA hval
 obtain ⟨v0, vs0, d0, ds0, p0, q0, hargs, rfl, rfl, h0, r0⟩ := trodAll_cons hA
 obtain ⟨v1, vs1, d1, ds1, p1, q1, rfl, rfl, rfl, h1, r1⟩ := trodAll_cons r0
 obtain ⟨v2, vs2, d2, ds2, p2, q2, rfl, rfl, rfl, h2, r2⟩ := trodAll_cons r1
 obtain ⟨v3, vs3, d3, ds3, p3, q3, rfl, rfl, rfl, h3, r3⟩ := trodAll_cons r2
 obtain ⟨v4, vs4, d4, ds4, p4, q4, rfl, rfl, rfl, h4, r4⟩ := trodAll_cons r3
 obtain ⟨rfl, rfl, rfl⟩ := trodAll_nil r4
 obtain rfl : args = #[v0, v1, v2, v3, v4] := by cases args; simp_all
 obtain ⟨rfl, rfl⟩ := trodVars_none hV
 have k0 := h0
 have lt0 : ∀ x ∈ p0, x.block < W.heap.size := by obtain ⟨m, hm⟩ := k0; exact DataW.trod_lt m _ _ _ hm
 obtain ⟨g0, la0, ea0, lc0, ec0, rfl, hG0, hl0, hm0⟩ := open_graph (hval 0 25 v0 rfl rfl) h0
 obtain ⟨t1, rfl, rfl, rfl, wt1⟩ := open_int Tryz.underlying3 (hval 1 3 v1 rfl rfl) h1
 obtain ⟨t2, rfl, rfl, rfl, wt2⟩ := open_int Tryz.underlying3 (hval 2 3 v2 rfl rfl) h2
 obtain ⟨t3, rfl, rfl, rfl, wt3⟩ := open_int Tryz.underlying3 (hval 3 3 v3 rfl rfl) h3
 obtain ⟨t4, rfl, rfl, rfl, wt4⟩ := open_int Tryz.underlying3 (hval 4 3 v4 rfl rfl) h4
 clear hA0 hval0
 obtain ⟨hla, hea, hlegs⟩ := graph_lie k0
 obtain ⟨ρ, Hh, la, ea, hrel, hown, hvg, hGs⟩ := shadow_graph (F := Fp Fv) W g0 la0 ea0 lc0 ec0 hG0 hla hea hlegs
 have hx : AVRel (Fp Fv) ρ #[.agg #[.int .i64 g0.hor, .slice la g0.lives.length lc0, .slice ea g0.edges.length ec0], .int .i64 t1, .int .i64 t2, .int .i64 t3, .int .i64 t4] #[.agg #[.int .i64 g0.hor, .slice la0 g0.lives.length lc0, .slice ea0 g0.edges.length ec0], .int .i64 t1, .int .i64 t2, .int .i64 t3, .int .i64 t4] := by
   refine ⟨rfl, fun i v v' hv hv' => ?_⟩
   match i with
   | 0 => cases hv; cases hv'; exact hvg
   | 1 => cases hv; cases hv'; exact .int _ _
   | 2 => cases hv; cases hv'; exact .int _ _
   | 3 => cases hv; cases hv'; exact .int _ _
   | 4 => cases hv; cases hv'; exact .int _ _
   | i + 5 => simp at hv
 refine law_ends hrel hown hx bspWorkers_known (fun τ d => hwalk g0 la ea lc0 ec0 t1 t2 t3 t4 (tp { W with heap := Hh } τ d) ⟨hGs.lv, hGs.ed, hGs.nl, hGs.ne⟩) (fun W' bel => ?_)
 exact ⟨_, _, _, [], _, [], hW', trodAll_mk1 (shut_bool Tryz.underlying4 _), (trodAll_cons_mk (Below.trod Tryz.laidOut (by kernel_rfl) (of_decide_eq_true (by kernel_rfl)) k0 bel lt0) (trodAll_cons_mk (shut_int Tryz.underlying3 wt1) (trodAll_cons_mk (shut_int Tryz.underlying3 wt2) (trodAll_cons_mk (shut_int Tryz.underlying3 wt3) (trodAll_cons_mk (shut_int Tryz.underlying3 wt4) trodAll_mk0))))), rfl, bel.frame _, fun h => by cases h⟩
theorem bspWorkers_of (hwalk : BspWorkersWalk) : Rows.BspWorkersSaid :=
 OpenClaim.holds_of_wide_leaving 4 Tryz.f4 rfl rfl rfl rfl rfl rfl rfl ⟨rfl, rfl, rfl, rfl, rfl⟩ rfl rfl rfl rfl rfl (by kernel_rfl) Tryz.func4 (by kernel_rfl)
   (of_decide_eq_true (by kernel_rfl)) (by unfold Func.isWrapper; first | (rw [if_pos (by decide +kernel)]; kernel_rfl) | (rw [if_neg (by decide +kernel)]; exact ⟨rfl, rfl⟩))
   (fun os started H enc _ => bspWorkers_lifted hwalk os started H enc)
end Go.Proofs.YthgelfnflafoiaeGreat
namespace Go.Proofs.YthgelfnflafoiaeGreat.Q
open Sim (Seq.prog)
def nearB (x : Int) : Prop := -1000000000 <= x /\ x <= 1000000000
def Near (l : List (Int × Int)) (k : Nat) : Prop := ∀ i, i < k -> nearB (l.getD i (0, 0)).1 /\ nearB (l.getD i (0, 0)).2
def nearDec (l : List (Int × Int)) (k : Nat) : Decidable (Near l k) := by unfold Near nearB; infer_instance
def Form (l : List (Int × Int)) (k : Nat) : Prop := ∀ i, i < k -> (l.getD i (0, 0)).1 < (l.getD i (0, 0)).2 /\ (0 < i -> (l.getD (i - 1) (0, 0)).2 < (l.getD i (0, 0)).1)
def goodDec (l : List (Int × Int)) (k : Nat) : Decidable (Near l k /\ Form l k) := by unfold Near Form nearB; infer_instance
def cbs (l : List (Int × Int)) : Int := if 200 < l.length then 2 else @ite Int (Near l l.length) (nearDec l l.length) 0 5
def chk (l : List (Int × Int)) : Int := if 200 < l.length then 2 else @ite Int (Near l l.length /\ Form l l.length) (goodDec l l.length) 0 5
theorem near_succ {l : List (Int × Int)} {k : Nat} (h : Near l k) (h1 : nearB (l.getD k (0, 0)).1) (h2 : nearB (l.getD k (0, 0)).2) : Near l (k + 1) := by
 intro i hi
 by_cases e : i = k
 · subst e; exact ⟨h1, h2⟩
 · exact h i (by omega)
theorem form_succ {l : List (Int × Int)} {k : Nat} (h : Form l k) (h1 : (l.getD k (0, 0)).1 < (l.getD k (0, 0)).2) (h2 : 0 < k -> (l.getD (k - 1) (0, 0)).2 < (l.getD k (0, 0)).1) : Form l (k + 1) := by
 intro i hi
 by_cases e : i = k
 · subst e; exact ⟨h1, h2⟩
 · exact h i (by omega)
theorem cbs_large {l : List (Int × Int)} (h : 200 < l.length) : cbs l = 2 := by simp [cbs, h]
theorem cbs_ok {l : List (Int × Int)} (h : l.length <= 200) (hn : Near l l.length) : cbs l = 0 := by
 unfold cbs; rw [if_neg (by omega), if_pos hn]
theorem cbs_no {l : List (Int × Int)} {k : Nat} (h : l.length <= 200) (hk : k < l.length) (hn : ¬ (nearB (l.getD k (0, 0)).1 /\ nearB (l.getD k (0, 0)).2)) : cbs l = 5 := by
 unfold cbs; rw [if_neg (by omega), if_neg (fun hh => hn (hh k hk))]
theorem cbs_cases (l : List (Int × Int)) : (cbs l = 2 /\ 200 < l.length) \/ (cbs l = 5 /\ l.length <= 200 /\ ¬ Near l l.length) \/ (cbs l = 0 /\ l.length <= 200 /\ Near l l.length) := by
 unfold cbs
 by_cases h : 200 < l.length
 · exact .inl ⟨by rw [if_pos h], h⟩
 · rw [if_neg h]
   by_cases hn : Near l l.length
   · exact .inr (.inr ⟨by rw [if_pos hn], by omega, hn⟩)
   · exact .inr (.inl ⟨by rw [if_neg hn], by omega, hn⟩)
theorem chk_large {l : List (Int × Int)} (h : 200 < l.length) : chk l = 2 := by simp [chk, h]
theorem chk_ok {l : List (Int × Int)} (h : l.length <= 200) (hn : Near l l.length) (hf : Form l l.length) : chk l = 0 := by
 unfold chk; rw [if_neg (by omega), if_pos ⟨hn, hf⟩]
theorem chk_far {l : List (Int × Int)} (h : l.length <= 200) (hn : ¬ Near l l.length) : chk l = 5 := by
 unfold chk; rw [if_neg (by omega), if_neg (fun hh => hn hh.1)]
theorem chk_no {l : List (Int × Int)} {k : Nat} (h : l.length <= 200) (hk : k < l.length) (hn : ¬ ((l.getD k (0, 0)).1 < (l.getD k (0, 0)).2 /\ (0 < k -> (l.getD (k - 1) (0, 0)).2 < (l.getD k (0, 0)).1))) : chk l = 5 := by
 unfold chk; rw [if_neg (by omega), if_neg (fun hh => hn (hh.2 k hk))]
theorem chk_cases (l : List (Int × Int)) : chk l = 2 \/ chk l = 5 \/ (chk l = 0 /\ l.length <= 200 /\ Near l l.length /\ Form l l.length) := by
 unfold chk
 by_cases h : 200 < l.length
 · exact .inl (by rw [if_pos h])
 · rw [if_neg h]
   by_cases hn : Near l l.length /\ Form l l.length
   · exact .inr (.inr ⟨by rw [if_pos hn], by omega, hn⟩)
   · exact .inr (.inl (by rw [if_neg hn]))
def flat (l : List (Int × Int)) : List Int := l.flatMap fun p => [p.1, p.2]
theorem flat_cons (p : Int × Int) (l : List (Int × Int)) : flat (p :: l) = p.1 :: p.2 :: flat l := by simp [flat]
theorem flat_append (a b : List (Int × Int)) : flat (a ++ b) = flat a ++ flat b := by simp [flat]
theorem flat_length (l : List (Int × Int)) : (flat l).length = 2 * l.length := by
 induction l with
 | nil => rfl
 | cons p l ih => rw [flat_cons]; simp only [List.length_cons, ih]; omega
theorem take_succ_get {α : Type} (l : List α) (k : Nat) (hk : k < l.length) : l.take (k + 1) = l.take k ++ [l[k]] := by
 rw [List.take_add_one, List.getElem?_eq_getElem hk]; rfl
theorem flat_succ (l : List (Int × Int)) (k : Nat) (hk : k < l.length) : flat (l.take (k + 1)) = flat (l.take k) ++ [l[k].1, l[k].2] := by
 rw [take_succ_get l k hk, flat_append]; rfl
theorem flat_getD (l : List (Int × Int)) (j : Nat) (h : j < l.length) : (flat l)[j * 2]? = some (l.getD j (0, 0)).1 /\ (flat l)[j * 2 + 1]? = some (l.getD j (0, 0)).2 := by
 induction l generalizing j with
 | nil => simp at h
 | cons p l ih =>
   rw [flat_cons]
   cases j with
   | zero => exact ⟨rfl, rfl⟩
   | succ j =>
     have := ih j (by simpa using h)
     rw [show (j + 1) * 2 = j * 2 + 1 + 1 by omega]
     simpa using this
def cnt (l : List Int) (t : Int) : Nat := l.countP fun x => decide (x <= t)
theorem cnt_cons (x : Int) (l : List Int) (t : Int) : cnt (x :: l) t = cnt l t + if x <= t then 1 else 0 := by
 unfold cnt
 rw [List.countP_cons]
 simp
theorem cnt_none {l : List Int} {t : Int} (h : ∀ x ∈ l, t < x) : cnt l t = 0 := by
 unfold cnt
 rw [List.countP_eq_zero]
 intro x hx
 have := h x hx
 simp; omega
def Stp (A : List Int) (i i' : Nat) (τ : Int) : Prop := (i' = i + 1 /\ A[i]? = some τ) \/ (i' = i /\ ∀ y ∈ A.drop i, τ < y)
theorem stp_no {A : List Int} {i : Nat} {τ : Int} (sA : A.Pairwise (· < ·)) (h : i < A.length) (e : τ < A[i]) : Stp A i i τ := by
 refine .inr ⟨rfl, fun y hy => ?_⟩
 have sd := sA.sublist (List.drop_sublist i A)
 rw [List.drop_eq_getElem_cons h] at hy sd
 rw [List.pairwise_cons] at sd
 simp only [List.mem_cons] at hy
 rcases hy with rfl | hy
 · exact e
 · have := sd.1 y hy; omega
def has (l : List (Int × Int)) (t : Int) : Bool := l.any fun p => decide (p.1 <= t) && decide (t < p.2)
theorem has_nil (t : Int) : has [] t = false := rfl
theorem has_cons (p : Int × Int) (l : List (Int × Int)) (t : Int) : has (p :: l) t = ((decide (p.1 <= t) && decide (t < p.2)) || has l t) := rfl
theorem has_append (a b : List (Int × Int)) (t : Int) : has (a ++ b) t = (has a t || has b t) := by simp [has]
theorem has_take_no {l : List (Int × Int)} {k : Nat} {t : Int} (hk : k < l.length) (h : has (l.take k) t = false) (hn : ¬ (l[k].1 <= t /\ t < l[k].2)) : has (l.take (k + 1)) t = false := by
 rw [take_succ_get l k hk, has_append, h, has_cons, has_nil]
 simp only [Bool.false_or, Bool.or_false, Bool.and_eq_false_iff, decide_eq_false_iff_not]
 omega
theorem has_take_yes {l : List (Int × Int)} {k : Nat} {t : Int} (hk : k < l.length) (h1 : l[k].1 <= t) (h2 : t < l[k].2) : has l t = true := by
 unfold has
 rw [List.any_eq_true]
 exact ⟨l[k], List.getElem_mem hk, by simp [h1, h2]⟩
def size (l : List (Int × Int)) : Int := (l.map fun p => p.2 - p.1).sum
def Canon (l : List (Int × Int)) : Prop := (flat l).Pairwise (· < ·)
def pairs : List Int -> List (Int × Int)
 | x :: y :: l => (x, y) :: pairs l
 | _ => []
theorem form_tail {p : Int × Int} {l : List (Int × Int)} (h : Form (p :: l) (l.length + 1)) : Form l l.length := by
 intro i hi
 have := h (i + 1) (by omega)
 refine ⟨by simpa using this.1, fun h0 => ?_⟩
 have h2 := this.2 (by omega)
 rw [show i + 1 - 1 = (i - 1) + 1 by omega] at h2
 simpa using h2
theorem canon_of_form {l : List (Int × Int)} (h : Form l l.length) : Canon l := by
 unfold Canon
 induction l with
 | nil => exact List.Pairwise.nil
 | cons p l ih =>
   have ih' := ih (form_tail h)
   have h0 := (h 0 (by simp)).1
   simp at h0
   have h1 : ∀ x ∈ flat l, p.2 < x := by
     cases l with
     | nil => simp [flat]
     | cons q l =>
       have hq := (h 1 (by simp)).2 (by omega)
       simp at hq
       rw [flat_cons] at ih' ⊢
       intro x hx
       rw [List.pairwise_cons] at ih'
       simp only [List.mem_cons] at hx
       rcases hx with rfl | hx
       · exact hq
       · have := ih'.1 x (by simpa using hx); omega
   rw [flat_cons, List.pairwise_cons, List.pairwise_cons]
   refine ⟨fun x hx => ?_, h1, ih'⟩
   simp only [List.mem_cons] at hx
   rcases hx with rfl | hx
   · exact h0
   · have := h1 x hx; omega
theorem form_of_canon {l : List (Int × Int)} (h : Canon l) : Form l l.length := by
 unfold Canon at h
 rw [List.pairwise_iff_getElem] at h
 intro i hi
 have hl := flat_length l
 obtain ⟨f0, f1⟩ := flat_getD l i hi
 obtain ⟨g0, f0⟩ := List.getElem?_eq_some_iff.1 f0
 obtain ⟨g1, f1⟩ := List.getElem?_eq_some_iff.1 f1
 refine ⟨?_, fun h0 => ?_⟩
 · rw [<- f0, <- f1]; exact h _ _ g0 g1 (by omega)
 · obtain ⟨_, e1⟩ := flat_getD l (i - 1) (by omega)
   obtain ⟨k1, e1⟩ := List.getElem?_eq_some_iff.1 e1
   rw [<- f0, <- e1]
   exact h _ _ k1 g0 (by omega)
theorem near_flat {l : List (Int × Int)} (h : Near l l.length) : ∀ x ∈ flat l, nearB x := by
 induction l with
 | nil => simp [flat]
 | cons p l ih =>
   have ih' := ih (fun i hi => by simpa using h (i + 1) (by simpa using hi))
   have h0 := h 0 (by simp)
   simp at h0
   rw [flat_cons]
   intro x hx
   simp only [List.mem_cons] at hx
   rcases hx with rfl | rfl | hx
   · exact h0.1
   · exact h0.2
   · exact ih' x hx
theorem near_of_flat {l : List (Int × Int)} (h : ∀ x ∈ flat l, nearB x) : Near l l.length := by
 intro i hi
 obtain ⟨f0, f1⟩ := flat_getD l i hi
 exact ⟨h _ (List.mem_of_getElem? f0), h _ (List.mem_of_getElem? f1)⟩
theorem chk_of_canon {l : List (Int × Int)} (hc : Canon l) (hn : ∀ x ∈ flat l, nearB x) (hl : l.length <= 200) : chk l = 0 :=
 chk_ok hl (near_of_flat hn) (form_of_canon hc)
open Go.RowKit
def IvAt (w : World) (ao : Option Addr) (l : List (Int × Int)) : Prop :=
 l = [] \/ ∃ b off, ao = some ⟨b, off, none⟩ /\ b < w.heap.size /\ ∀ j, j < l.length -> w.cell? ⟨b, off + j * 2, none⟩ = some (.int .i64 (l.getD j (0, 0)).1) /\ w.cell? ⟨b, off + j * 2 + 1, none⟩ = some (.int .i64 (l.getD j (0, 0)).2)
def ZsAt (w : World) (ao : Option Addr) (l : List Int) : Prop :=
 l = [] \/ ∃ b off, ao = some ⟨b, off, none⟩ /\ b < w.heap.size /\ ∀ j, j < l.length -> w.cell? ⟨b, off + j, none⟩ = some (.int .i64 (l.getD j 0))
theorem IvAt.below {w w' : World} {ao : Option Addr} {l : List (Int × Int)} (h : IvAt w ao l) (hb : Below w.heap.size w w') : IvAt w' ao l := by
 rcases h with h | ⟨b, off, rfl, hlt, hc⟩
 · exact .inl h
 · refine .inr ⟨b, off, rfl, Nat.lt_of_lt_of_le hlt hb.size, fun j hj => ?_⟩
   rw [hb.cell (p := ⟨b, off + j * 2, none⟩) hlt, hb.cell (p := ⟨b, off + j * 2 + 1, none⟩) hlt]
   exact hc j hj
theorem ZsAt.below {w w' : World} {ao : Option Addr} {l : List Int} (h : ZsAt w ao l) (hb : Below w.heap.size w w') : ZsAt w' ao l := by
 rcases h with h | ⟨b, off, rfl, hlt, hc⟩
 · exact .inl h
 · refine .inr ⟨b, off, rfl, Nat.lt_of_lt_of_le hlt hb.size, fun j hj => ?_⟩
   rw [hb.cell (p := ⟨b, off + j, none⟩) hlt]
   exact hc j hj
theorem Tryz.infoInt : (Seq.prog.info? 3).map (fun i => (i.zero, i.size, i.bytes)) = some (some (.int .i64 0), 1, 8) := by kernel_rfl
theorem Tryz.infoIvl : (Seq.prog.info? 88).map (fun i => (i.zero, i.size, i.bytes)) = some (some (.agg #[.int .i64 0, .int .i64 0]), 2, 16) := by kernel_rfl
theorem zsAt_of_owns {w : World} {base e : Nat} {v : Value} {n : Nat} {l : List Int} (h : w.ownsRow base e 1 v n (l.map (Value.int .i64))) : ∃ ao cap, v = .slice ao l.length cap /\ ZsAt w ao l := by
 obtain ⟨h1, h2⟩ := h
 simp only [List.length_map, Nat.mul_one] at h1
 subst h1
 rcases h2 with ⟨rfl, h0⟩ | ⟨g, cap, cur, rfl, hb, hh, h3, h4, h5, h6⟩
 · exact ⟨none, 0, by rw [h0], .inl (List.eq_nil_of_length_eq_zero h0)⟩
 · refine ⟨_, cap, rfl, .inr ⟨g, 0, rfl, (Array.getElem?_eq_some_iff.1 hh).1, fun j hj => ?_⟩⟩
   have := World.ownsRow.cellAt (w := w) (base := base) (e := e) (size := 1) (xs := l.map (Value.int .i64)) ⟨by simp, .inr ⟨g, cap, cur, rfl, hb, hh, h3, h4, h5, h6⟩⟩ j (by omega)
   rw [Nat.zero_add, this, List.getElem?_map, List.getD_eq_getElem?_getD, List.getElem?_eq_getElem hj]
   rfl
def encs (l : List (Int × Int)) : List Value := (flat l).map (Value.int .i64)
theorem ivAt_of_owns {w : World} {base e : Nat} {v : Value} {n : Nat} {l : List (Int × Int)} (h : w.ownsRow base e 2 v n (encs l)) : ∃ ao cap, v = .slice ao l.length cap /\ IvAt w ao l := by
 obtain ⟨h1, h2⟩ := h
 simp only [encs, List.length_map, flat_length] at h1
 have hn : n = l.length := by omega
 subst hn
 rcases h2 with ⟨rfl, h0⟩ | ⟨g, cap, cur, rfl, hb, hh, h3, h4, h5, h6⟩
 · exact ⟨none, 0, by rw [h0], .inl (List.eq_nil_of_length_eq_zero h0)⟩
 · have hown : w.ownsRow base e 2 (.slice (some ⟨g, 0, none⟩) l.length cap) l.length (encs l) := ⟨by simp [encs, flat_length]; omega, .inr ⟨g, cap, cur, rfl, hb, hh, h3, h4, h5, h6⟩⟩
   refine ⟨_, cap, rfl, .inr ⟨g, 0, rfl, (Array.getElem?_eq_some_iff.1 hh).1, fun j hj => ?_⟩⟩
   obtain ⟨f0, f1⟩ := flat_getD l j hj
   rw [Nat.zero_add, hown.cellAt (j * 2) (by omega), hown.cellAt (j * 2 + 1) (by omega)]
   simp only [encs, List.getElem?_map, f0, f1]
   exact ⟨rfl, rfl⟩
theorem ownsRow_below {w w' : World} {base e size : Nat} {v : Value} {n : Nat} {xs : List Value} (h : w.ownsRow base e size v n xs) (hb : Below w.heap.size w w') : w'.ownsRow base e size v n xs :=
 h.kept (row := none) ⟨hb.os, hb.tape, hb.output, hb.size, fun k hk _ => hb.block k hk⟩ (by cases v.ownBlock <;> simp)
theorem cells_two_new (w : World) (B : Nat) (t : TypeId) (x y : Value) (hB : B = w.heap.size) : ∀ j u, [x, y][j]? = some u -> (w.alloc (.cells #[x, y] t)).cell? ((⟨B, 0, none⟩ : Addr).add j) = some u := by
 subst hB
 intro j u hj
 match j, hj with
 | 0, hj => simp at hj; subst hj; simp [Addr.add]
 | 1, hj => simp at hj; subst hj; simp [Addr.add]
theorem owns_base2 {w : World} {base base' e size : Nat} {v : Value} {n : Nat} {xs : List Value} (h : w.ownsRow base e size v n xs) (hb : base' <= base) : w.ownsRow base' e size v n xs :=
 ⟨h.1, h.2.imp id (fun ⟨g, c, cur, h1, h2, h3⟩ => ⟨g, c, cur, h1, Nat.le_trans hb h2, h3⟩)⟩
abbrev Lg := Int × Int × Int × Int
abbrev Ed := Int × Int × List Lg
structure Gr where
 hor : Int
 lives : List (Int × Int)
 edges : List Ed
def inR (n lo hi : Int) : Bool := decide (lo <= n) && decide (n <= hi)
def spanB (a b h : Int) : Bool := decide (0 <= a) && (decide (a < b) && decide (b <= h))
def fitB (l : Lg) (h : Int) : Bool := spanB l.1 l.2.1 h && (inR l.2.2.1 1 50 && inR l.2.2.2 0 1000)
def lgChk (h p : Int) : List Lg -> Int
 | [] => 0
 | l :: ls => if fitB l h = false then 1 else if l.1 < p then 5 else lgChk h l.2.1 ls
def edChk (h n : Int) (e : Ed) : Int := if (inR e.1 0 (n - 1) && inR e.2.1 0 (n - 1)) = false then 4 else if 6 < e.2.2.length then 2 else lgChk h 0 e.2.2
def edsChk (h n : Int) : List Ed -> Int
 | [] => 0
 | e :: es => if edChk h n e = 0 then edsChk h n es else edChk h n e
def lvChk (h : Int) : List (Int × Int) -> Int
 | [] => 0
 | p :: ps => if spanB p.1 p.2 h = true then lvChk h ps else 1
def gChk (g : Gr) : Int :=
 if inR g.hor 1 100 = false then 1 else if 12 < g.lives.length \/ 30 < g.edges.length then 2 else if lvChk g.hor g.lives ≠ 0 then 1 else edsChk g.hor g.lives.length g.edges
theorem inR_iff (n lo hi : Int) : inR n lo hi = true ↔ lo <= n /\ n <= hi := by unfold inR; simp
theorem inR_no {n lo hi : Int} (h : ¬ (lo <= n /\ n <= hi)) : inR n lo hi = false := by rw [<- Bool.not_eq_true, inR_iff]; exact h
theorem spanB_iff (a b h : Int) : spanB a b h = true ↔ 0 <= a /\ a < b /\ b <= h := by unfold spanB; simp
theorem spanB_no {a b h : Int} (k : ¬ (0 <= a /\ a < b /\ b <= h)) : spanB a b h = false := by rw [<- Bool.not_eq_true, spanB_iff]; exact k
theorem fitB_iff (l : Lg) (h : Int) : fitB l h = true ↔ (0 <= l.1 /\ l.1 < l.2.1 /\ l.2.1 <= h) /\ (1 <= l.2.2.1 /\ l.2.2.1 <= 50) /\ (0 <= l.2.2.2 /\ l.2.2.2 <= 1000) := by
 unfold fitB; rw [Bool.and_eq_true, Bool.and_eq_true, spanB_iff, inR_iff, inR_iff]
theorem drop_get {α : Type} (l : List α) (k : Nat) (h : k < l.length) : l.drop k = l[k] :: l.drop (k + 1) := (List.drop_eq_getElem_cons h)
def prevTo (l : List Lg) : Nat -> Int
 | 0 => 0
 | k + 1 => (l.getD k (0, 0, 0, 0)).2.1
theorem lg_bad {h : Int} {l : List Lg} {k : Nat} (hk : k < l.length) (hI : lgChk h 0 l = lgChk h (prevTo l k) (l.drop k)) (hf : fitB l[k] h = false) : lgChk h 0 l = 1 := by
 rw [hI, drop_get l k hk, lgChk, if_pos hf]
theorem lg_form {h : Int} {l : List Lg} {k : Nat} (hk : k < l.length) (hI : lgChk h 0 l = lgChk h (prevTo l k) (l.drop k)) (hf : fitB l[k] h = true) (hp : l[k].1 < prevTo l k) : lgChk h 0 l = 5 := by
 rw [hI, drop_get l k hk, lgChk, if_neg (by simp [hf]), if_pos hp]
theorem lg_next {h : Int} {l : List Lg} {k : Nat} (hk : k < l.length) (hI : lgChk h 0 l = lgChk h (prevTo l k) (l.drop k)) (hf : fitB l[k] h = true) (hp : ¬ l[k].1 < prevTo l k) : lgChk h 0 l = lgChk h (prevTo l (k + 1)) (l.drop (k + 1)) := by
 rw [hI, drop_get l k hk, lgChk, if_neg (by simp [hf]), if_neg hp]
 simp [prevTo, List.getD_eq_getElem?_getD, List.getElem?_eq_getElem hk]
theorem lg_end {h : Int} {l : List Lg} (hI : lgChk h 0 l = lgChk h (prevTo l l.length) (l.drop l.length)) : lgChk h 0 l = 0 := by
 rw [hI, List.drop_length]; rfl
theorem prevTo_succ {l : List Lg} {k : Nat} (hk : k < l.length) : prevTo l (k + 1) = l[k].2.1 := by
 simp [prevTo, List.getD_eq_getElem?_getD, List.getElem?_eq_getElem hk]
theorem eds_stop {h n : Int} {l : List Ed} {k : Nat} (hk : k < l.length) (hI : edsChk h n l = edsChk h n (l.drop k)) (he : edChk h n l[k] ≠ 0) : edsChk h n l = edChk h n l[k] := by
 rw [hI, drop_get l k hk, edsChk, if_neg he]
theorem eds_next {h n : Int} {l : List Ed} {k : Nat} (hk : k < l.length) (hI : edsChk h n l = edsChk h n (l.drop k)) (he : edChk h n l[k] = 0) : edsChk h n l = edsChk h n (l.drop (k + 1)) := by
 rw [hI, drop_get l k hk, edsChk, if_pos he]
theorem eds_end {h n : Int} {l : List Ed} (hI : edsChk h n l = edsChk h n (l.drop l.length)) : edsChk h n l = 0 := by
 rw [hI, List.drop_length]; rfl
theorem lv_stop {h : Int} {l : List (Int × Int)} {k : Nat} (hk : k < l.length) (hI : lvChk h l = lvChk h (l.drop k)) (he : spanB l[k].1 l[k].2 h = false) : lvChk h l = 1 := by
 rw [hI, drop_get l k hk, lvChk, if_neg (by simp [he])]
theorem lv_next {h : Int} {l : List (Int × Int)} {k : Nat} (hk : k < l.length) (hI : lvChk h l = lvChk h (l.drop k)) (he : spanB l[k].1 l[k].2 h = true) : lvChk h l = lvChk h (l.drop (k + 1)) := by
 rw [hI, drop_get l k hk, lvChk, if_pos he]
theorem lv_end {h : Int} {l : List (Int × Int)} (hI : lvChk h l = lvChk h (l.drop l.length)) : lvChk h l = 0 := by
 rw [hI, List.drop_length]; rfl
theorem gChk_hor {g : Gr} (h : inR g.hor 1 100 = false) : gChk g = 1 := by unfold gChk; rw [if_pos h]
theorem gChk_large {g : Gr} (h : inR g.hor 1 100 = true) (k : 12 < g.lives.length \/ 30 < g.edges.length) : gChk g = 2 := by unfold gChk; rw [if_neg (by simp [h]), if_pos k]
theorem gChk_life {g : Gr} (h : inR g.hor 1 100 = true) (k : ¬ (12 < g.lives.length \/ 30 < g.edges.length)) (l : lvChk g.hor g.lives = 1) : gChk g = 1 := by unfold gChk; rw [if_neg (by simp [h]), if_neg k, if_pos (by omega)]
theorem gChk_rest {g : Gr} (h : inR g.hor 1 100 = true) (k : ¬ (12 < g.lives.length \/ 30 < g.edges.length)) (l : lvChk g.hor g.lives = 0) : gChk g = edsChk g.hor g.lives.length g.edges := by unfold gChk; rw [if_neg (by simp [h]), if_neg k, if_neg (by omega)]
structure Right (g : Gr) : Prop where
 hor : 1 <= g.hor /\ g.hor <= 100
 lvs : g.lives.length <= 12
 eds : g.edges.length <= 30
 life : ∀ p ∈ g.lives, 0 <= p.1 /\ p.1 < p.2 /\ p.2 <= g.hor
 ends : ∀ e ∈ g.edges, (0 <= e.1 /\ e.1 < g.lives.length) /\ (0 <= e.2.1 /\ e.2.1 < g.lives.length) /\ e.2.2.length <= 6
 legs : ∀ e ∈ g.edges, ∀ l ∈ e.2.2, fitB l g.hor = true
theorem lv_all {h : Int} : ∀ {l : List (Int × Int)}, lvChk h l = 0 -> ∀ p ∈ l, spanB p.1 p.2 h = true
 | [], _, p, hp => by simp at hp
 | q :: l, hl, p, hp => by
   unfold lvChk at hl
   by_cases hq : spanB q.1 q.2 h = true
   · rw [if_pos hq] at hl
     rcases List.mem_cons.1 hp with rfl | hp
     · exact hq
     · exact lv_all hl p hp
   · rw [if_neg hq] at hl; omega
theorem lg_all {h : Int} : ∀ {l : List Lg} {p : Int}, lgChk h p l = 0 -> ∀ x ∈ l, fitB x h = true
 | [], _, _, x, hx => by simp at hx
 | q :: l, p, hl, x, hx => by
   unfold lgChk at hl
   by_cases hq : fitB q h = false
   · rw [if_pos hq] at hl; omega
   · rw [if_neg hq] at hl
     by_cases hp : q.1 < p
     · rw [if_pos hp] at hl; omega
     · rw [if_neg hp] at hl
       rcases List.mem_cons.1 hx with rfl | hx
       · simpa using hq
       · exact lg_all hl x hx
theorem eds_all {h n : Int} : ∀ {l : List Ed}, edsChk h n l = 0 -> ∀ e ∈ l, edChk h n e = 0
 | [], _, e, he => by simp at he
 | q :: l, hl, e, he => by
   unfold edsChk at hl
   by_cases hq : edChk h n q = 0
   · rw [if_pos hq] at hl
     rcases List.mem_cons.1 he with rfl | he
     · exact hq
     · exact eds_all hl e he
   · rw [if_neg hq] at hl; exact absurd hl hq
theorem gChk_right {g : Gr} (h : gChk g = 0) : Right g := by
 unfold gChk at h
 by_cases h1 : inR g.hor 1 100 = false
 · rw [if_pos h1] at h; omega
 rw [if_neg h1] at h
 by_cases h2 : 12 < g.lives.length \/ 30 < g.edges.length
 · rw [if_pos h2] at h; omega
 rw [if_neg h2] at h
 by_cases h3 : lvChk g.hor g.lives ≠ 0
 · rw [if_pos h3] at h; omega
 rw [if_neg h3] at h
 have e0 := eds_all h
 have hed : ∀ e ∈ g.edges, (0 <= e.1 /\ e.1 < g.lives.length) /\ (0 <= e.2.1 /\ e.2.1 < g.lives.length) /\ e.2.2.length <= 6 /\ lgChk g.hor 0 e.2.2 = 0 := by
   intro e he
   have := e0 e he
   unfold edChk at this
   by_cases k1 : (inR e.1 0 (g.lives.length - 1) && inR e.2.1 0 (g.lives.length - 1)) = false
   · rw [if_pos k1] at this; omega
   rw [if_neg k1] at this
   by_cases k2 : 6 < e.2.2.length
   · rw [if_pos k2] at this; omega
   rw [if_neg k2] at this
   rw [Bool.not_eq_false, Bool.and_eq_true, inR_iff, inR_iff] at k1
   exact ⟨⟨k1.1.1, by omega⟩, ⟨k1.2.1, by omega⟩, by omega, this⟩
 refine ⟨(inR_iff _ _ _).1 (by simpa using h1), by omega, by omega, fun p hp => (spanB_iff _ _ _).1 (lv_all (by omega) p hp), fun e he => ?_, fun e he l hl => lg_all (hed e he).2.2.2 l hl⟩
 have := hed e he
 exact ⟨this.1, this.2.1, this.2.2.1⟩
theorem ret_bool {a b : Bool} (h : a = b) : Ending.returned (.bool a) = .returned (.bool b) := by rw [h]
theorem ret_int {k : IntKind} {a b : Int} (h : a = b) : Ending.returned (.int k a) = .returned (.int k b) := by rw [h]
def nrB (x : Int) : Bool := decide (-1000000000 <= x) && decide (x <= 1000000000)
theorem nrB_iff (x : Int) : nrB x = true ↔ nearB x := by unfold nrB nearB; simp only [Bool.and_eq_true, decide_eq_true_eq]
theorem nrB_all_no {l : List Int} {k : Nat} (hk : k < l.length) (h : ¬ nearB l[k]) : l.all nrB = false := by
 rw [<- Bool.not_eq_true, List.all_eq_true]
 intro hh
 exact h ((nrB_iff _).1 (hh l[k] (List.getElem_mem hk)))
theorem nrB_take_succ {l : List Int} {k : Nat} (hk : k < l.length) (h0 : (l.take k).all nrB = true) (h : nearB l[k]) : (l.take (k + 1)).all nrB = true := by
 rw [take_succ_get l k hk, List.all_append, h0]
 simp [(nrB_iff _).2 h]
set_option maxHeartbeats 400000 in
theorem Near_any (ao : Option Addr) (cap : Nat) (l : List Int) (w : World) (hl : ZsAt w ao l) (hn : l.length <= 9223372036854775807) :
   Calls Seq.prog 50 #[.slice ao l.length cap] w fun e w' => e = .returned (.bool (l.all nrB)) /\ w' = w := by
 go_enter Seq.func50, Tryz.ntmps50
 go_wp2
 go_loop [7] (fun i => ∃ k : Nat, k <= l.length /\ i = .int .i64 k /\ (l.take k).all nrB = true) (fun i => l.length - (intOf i).toNat)
 case atStart => exact ⟨0, Nat.zero_le _, rfl, rfl⟩
 case round =>
   obtain ⟨k, hk, rfl, hh⟩ := hrel
   have HH : Hid ((l.take k).all nrB = true) := hh
   clear hh
   by_cases hlt : k < l.length
   · rcases hl with h0 | ⟨b, off, rfl, hbw, hc⟩
     · subst h0; simp at hlt
     have c0 := hc k hlt
     have hg : l.getD k 0 = l[k] := by simp [List.getD_eq_getElem?_getD, List.getElem?_eq_getElem hlt]
     rw [hg] at c0
     clear hc hg
     by_cases g1 : l[k] < -1000000000
     · have HC : Hid (l.all nrB = false) := nrB_all_no hlt (by unfold nearB; omega)
       go_wp2
       go_ret
       exact ⟨ret_bool HC.out.symm, rfl⟩
     · by_cases g2 : l[k] > 1000000000
       · have HC : Hid (l.all nrB = false) := nrB_all_no hlt (by unfold nearB; omega)
         go_wp2
         go_ret
         exact ⟨ret_bool HC.out.symm, rfl⟩
       · have HC : Hid ((l.take (k + 1)).all nrB = true) := nrB_take_succ hlt HH.out (by unfold nearB; omega)
         go_wp2
         go_round
         case rel => exact ⟨k + 1, by omega, by go_num, HC.out⟩
         case measure => simp [intOf]; omega
   · have hkl : k = l.length := by omega
     subst hkl
     have HC : Hid (l.all nrB = true) := by have := HH.out; rwa [List.take_length] at this
     go_wp2
     go_ret
     exact ⟨ret_bool HC.out.symm, rfl⟩
theorem Near_two (B : Nat) (x y : Int) (w : World) (hB : B < w.heap.size) (c0 : w.cell? ⟨B, 0, none⟩ = some (.int .i64 x)) (c1 : w.cell? ⟨B, 1, none⟩ = some (.int .i64 y)) :
   Calls Seq.prog 50 #[.slice (some ⟨B, 0, none⟩) 2 2] w fun e w' => e = .returned (.bool (nrB x && nrB y)) /\ w' = w := by
 have h := Near_any (some ⟨B, 0, none⟩) 2 [x, y] w (.inr ⟨B, 0, rfl, hB, fun j hj => by
   match j, hj with
   | 0, _ => exact c0
   | 1, _ => exact c1⟩) (by simp)
 simpa using h
set_option maxHeartbeats 400000 in
theorem checkBounds_any (ao : Option Addr) (cap : Nat) (l : List (Int × Int)) (w : World) (hl : IvAt w ao l) :
   Calls Seq.prog 112 #[.slice ao l.length cap] w fun e w' => e = .returned (.int .i64 (cbs l)) /\ Below w.heap.size w w' := by
 by_cases h2 : 200 < l.length
 · have HC : Hid (cbs l = 2) := cbs_large h2
   go_enter Seq.func112, Tryz.ntmps112
   go_wp2
   go_ret
   exact ⟨ret_int HC.out.symm, Below.refl _ _⟩
 · have h3 : l.length <= 200 := by omega
   go_enter Seq.func112, Tryz.ntmps112
   go_wp2
   go_loopw [10] (fun i wr => ∃ k : Nat, k <= l.length /\ i = .int .i64 k /\ Near l k /\ Below w.heap.size w wr) (fun i _ => l.length - (intOf i).toNat)
   case atStart => exact ⟨0, Nat.zero_le _, rfl, fun i hi => absurd hi (Nat.not_lt_zero _), Below.refl _ _⟩
   case round =>
     obtain ⟨k, hk, rfl, hn, hb⟩ := hrel
     by_cases hlt : k < l.length
     · rcases hl.below hb with h0 | ⟨b, off, rfl, hbw, hc⟩
       · subst h0; simp at hlt
       obtain ⟨c0, c1⟩ := hc k hlt
       have HN : Hid (Near l k) := hn
       have HS : ∀ o o', Below w.heap.size w ((wr.alloc o).alloc o') := fun o o' => (hb.alloc hb.size o).alloc (by have := hb.size; simp; omega) o'
       have hg : l.getD k (0, 0) = l[k] := by simp [List.getD_eq_getElem?_getD, List.getElem?_eq_getElem hlt]
       rw [hg] at c0 c1
       have HG : Hid (l.getD k (0, 0) = l[k]) := hg
       clear hc hn hbw hl hg
       go_wp2_with fail
       refine (Near_two (wr.heap.size + 1) l[k].1 l[k].2 _ (by simp) (by simp) (by simp)).mono ?_
       rintro e w1 ⟨rfl, rfl⟩
       by_cases g1 : nearB l[k].1 /\ nearB l[k].2
       · have HC : Hid (Near l (k + 1)) := near_succ HN.out (by rw [HG.out]; exact g1.1) (by rw [HG.out]; exact g1.2)
         have e1 := (nrB_iff _).2 g1.1
         have e2 := (nrB_iff _).2 g1.2
         rw [e1, e2]
         clear g1 e1 e2
         go_wp2
         go_roundw
         case rel => exact ⟨k + 1, by omega, by go_num, HC.out, HS _ _⟩
         case measure => simp [intOf]; omega
       · have HC : Hid (cbs l = 5) := cbs_no (k := k) h3 hlt (by rw [HG.out]; exact g1)
         have e1 : (nrB l[k].1 && nrB l[k].2) = false := by
           rw [<- Bool.not_eq_true, Bool.and_eq_true, nrB_iff, nrB_iff]; exact g1
         rw [e1]
         clear g1 e1
         go_wp2
         go_ret
         exact ⟨ret_int HC.out.symm, HS _ _⟩
     · have hkl : k = l.length := by omega
       subst hkl
       have HC : Hid (cbs l = 0) := cbs_ok h3 hn
       clear hn
       go_wp2
       go_ret
       exact ⟨ret_int HC.out.symm, hb⟩
set_option maxHeartbeats 1000000 in
theorem check_any (ao : Option Addr) (cap : Nat) (l : List (Int × Int)) (w : World) (hl : IvAt w ao l) :
   Calls Seq.prog 108 #[.slice ao l.length cap] w fun e w' => e = .returned (.int .i64 (chk l)) /\ Below w.heap.size w w' := by
 have hcb := checkBounds_any ao cap l w hl
 rcases cbs_cases l with ⟨e, h2⟩ | ⟨e, h3, hn⟩ | ⟨e, h3, hn⟩
 · rw [e] at hcb
   have HC : Hid (chk l = 2) := chk_large h2
   clear e hl
   go_enter Seq.func108, Tryz.ntmps108
   go_wp2_with (go_at_call 112; refine hcb.mono ?_; rintro e w' ⟨rfl, hb⟩)
   go_ret
   exact ⟨ret_int HC.out.symm, by assumption⟩
 · rw [e] at hcb
   have HC : Hid (chk l = 5) := chk_far h3 hn
   clear e hl hn
   go_enter Seq.func108, Tryz.ntmps108
   go_wp2_with (go_at_call 112; refine hcb.mono ?_; rintro e w' ⟨rfl, hb⟩)
   go_ret
   exact ⟨ret_int HC.out.symm, by assumption⟩
 · rw [e] at hcb
   have HN : Hid (Near l l.length) := hn
   clear e hn
   go_enter Seq.func108, Tryz.ntmps108
   go_wp2_with (go_at_call 112; refine hcb.mono ?_; rintro e w1 ⟨rfl, hb1⟩)
   go_loopw [4, 13] (fun _ i wr => ∃ k : Nat, k <= l.length /\ i = .int .i64 k /\ Form l k /\ Below w.heap.size w wr) (fun _ i _ => l.length - (intOf i).toNat)
   case atStart => exact ⟨0, Nat.zero_le _, rfl, fun i hi => absurd hi (Nat.not_lt_zero _), by assumption⟩
   case round =>
     obtain ⟨k, hk, rfl, hf, hb⟩ := hrel
     by_cases hlt : k < l.length
     · rcases hl.below hb with h0 | ⟨b, off, rfl, hbw, hc⟩
       · subst h0; simp at hlt
       obtain ⟨c0, c1⟩ := hc k hlt
       have HF : Hid (Form l k) := hf
       have HS : ∀ o, Below w.heap.size w (wr.alloc o) := fun o => hb.alloc hb.size o
       have hg : l.getD k (0, 0) = l[k] := by simp [List.getD_eq_getElem?_getD, List.getElem?_eq_getElem hlt]
       by_cases g1 : l[k].2 <= l[k].1
       · have HC : Hid (chk l = 5) := chk_no (k := k) h3 hlt (by rw [hg]; omega)
         clear hc hf hl hg
         go_wp2
         go_quiet (fail)
         go_wp2
         go_ret
         exact ⟨ret_int HC.out.symm, below_drewN (HS _) _⟩
       · have d1 : decide (l[k].2 <= l[k].1) = false := by simpa using g1
         by_cases hk0 : k = 0
         · subst hk0
           simp only [Nat.zero_mul, Nat.add_zero] at c0 c1
           have HG : Hid (Form l (0 + 1)) := form_succ HF.out (by rw [hg]; omega) (fun h => absurd h (Nat.lt_irrefl _))
           clear hc hf hl hg
           go_wp2
           go_quiet (fail)
           go_wp2
           go_roundw
           case rel => exact ⟨0 + 1, by omega, by go_num, HG.out, below_drewN (HS _) _⟩
           case measure => simp [intOf]; omega
         · obtain ⟨m, rfl⟩ : ∃ m, k = m + 1 := ⟨k - 1, by omega⟩
           have cp := (hc m (by omega)).2
           have hm : m < l.length := by omega
           have hgm : l.getD m (0, 0) = l[m] := by simp [List.getD_eq_getElem?_getD, List.getElem?_eq_getElem hm]
           by_cases g2 : l[m + 1].1 <= l[m].2
           · have HC : Hid (chk l = 5) := chk_no (k := m + 1) h3 hlt (by rw [hg, Nat.add_sub_cancel, hgm]; omega)
             clear hc hf hl hg hgm
             go_wp2
             go_quiet (fail)
             go_wp2
             go_ret
             exact ⟨ret_int HC.out.symm, below_drewN (HS _) _⟩
           · have HG : Hid (Form l (m + 1 + 1)) := form_succ HF.out (by rw [hg]; omega) (fun h => by rw [hg, Nat.add_sub_cancel, hgm]; omega)
             have d2 : decide (l[m + 1].1 <= l[m].2) = false := by simpa using g2
             clear hc hf hl hg hgm
             go_wp2
             go_quiet (fail)
             go_wp2
             go_roundw
             case rel => exact ⟨m + 1 + 1, by omega, by go_num, HG.out, below_drewN (HS _) _⟩
             case measure => simp [intOf]; omega
     · have hkl : k = l.length := by omega
       subst hkl
       have HC : Hid (chk l = 0) := chk_ok h3 HN.out hf
       clear hf
       go_wp2
       go_ret
       exact ⟨ret_int HC.out.symm, hb⟩
set_option maxHeartbeats 1000000 in
theorem Has_any (ao : Option Addr) (cap : Nat) (l : List (Int × Int)) (t : Int) (w : World) (hl : IvAt w ao l) (hn : l.length <= 9223372036854775807) :
   Calls Seq.prog 21 #[.slice ao l.length cap, .int .i64 t] w fun e w' => e = .returned (.bool (has l t)) /\ Below w.heap.size w w' := by
 go_enter Seq.func21, Tryz.ntmps21
 go_wp2
 go_loopw [9] (fun i wr => ∃ k : Nat, k <= l.length /\ i = .int .i64 k /\ has (l.take k) t = false /\ Below w.heap.size w wr) (fun i _ => l.length - (intOf i).toNat)
 case atStart => exact ⟨0, Nat.zero_le _, rfl, rfl, Below.refl _ _⟩
 case round =>
   obtain ⟨k, hk, rfl, hh, hb⟩ := hrel
   have HH : Hid (has (l.take k) t = false) := hh
   clear hh
   by_cases hlt : k < l.length
   · rcases hl.below hb with h0 | ⟨b, off, rfl, hbw, hc⟩
     · subst h0; simp at hlt
     obtain ⟨c0, c1⟩ := hc k hlt
     have HS : ∀ o, Below w.heap.size w (wr.alloc o) := fun o => hb.alloc hb.size o
     clear hc hl
     by_cases g1 : l[k].1 <= t
     · by_cases g2 : t < l[k].2
       · have HC : Hid (has l t = true) := has_take_yes hlt g1 g2
         go_wp2
         go_ret
         exact ⟨ret_bool HC.out.symm, HS _⟩
       · have HC : Hid (has (l.take (k + 1)) t = false) := has_take_no hlt HH.out (by omega)
         go_wp2
         go_roundw
         case rel => exact ⟨k + 1, by omega, by go_num, HC.out, HS _⟩
         case measure => simp [intOf]; omega
     · have HC : Hid (has (l.take (k + 1)) t = false) := has_take_no hlt HH.out (by omega)
       go_wp2
       go_roundw
       case rel => exact ⟨k + 1, by omega, by go_num, HC.out, HS _⟩
       case measure => simp [intOf]; omega
   · have hkl : k = l.length := by omega
     subst hkl
     have HC : Hid (has l t = false) := by have := HH.out; rwa [List.take_length] at this
     go_wp2
     go_ret
     exact ⟨ret_bool HC.out.symm, hb⟩
theorem ptg {a b c : World} (h1 : Below a.heap.size a b) (h2 : Below b.heap.size b c) : Below a.heap.size a c := h1.trans (h2.mono h1.size)
theorem gal (w : World) (o : Obj) : Below w.heap.size w (w.alloc o) := (Below.refl _ _).alloc (Nat.le_refl _) o
theorem hideg {p : Prop} (h : p) : Hid p := h
def LgAt (w : World) (ao : Option Addr) (m : List Lg) : Prop :=
 m = [] \/ ∃ b off, ao = some ⟨b, off, none⟩ /\ b < w.heap.size /\ ∀ j, j < m.length -> w.cell? ⟨b, off + j * 4, none⟩ = some (.int .i64 (m.getD j (0, 0, 0, 0)).1) /\ w.cell? ⟨b, off + j * 4 + 1, none⟩ = some (.int .i64 (m.getD j (0, 0, 0, 0)).2.1) /\ w.cell? ⟨b, off + j * 4 + 2, none⟩ = some (.int .i64 (m.getD j (0, 0, 0, 0)).2.2.1) /\ w.cell? ⟨b, off + j * 4 + 3, none⟩ = some (.int .i64 (m.getD j (0, 0, 0, 0)).2.2.2)
theorem LgAt.below {w w' : World} {ao : Option Addr} {m : List Lg} (h : LgAt w ao m) (hb : Below w.heap.size w w') : LgAt w' ao m := by
 rcases h with h | ⟨b, off, rfl, hlt, hc⟩
 · exact .inl h
 · refine .inr ⟨b, off, rfl, Nat.lt_of_lt_of_le hlt hb.size, fun j hj => ?_⟩
   rw [hb.cell (p := ⟨b, off + j * 4, none⟩) hlt, hb.cell (p := ⟨b, off + j * 4 + 1, none⟩) hlt, hb.cell (p := ⟨b, off + j * 4 + 2, none⟩) hlt, hb.cell (p := ⟨b, off + j * 4 + 3, none⟩) hlt]
   exact hc j hj
theorem LgAt.get {w : World} {b off : Nat} {m : List Lg} {k : Nat} (hk : k < m.length) (hc : ∀ j, j < m.length -> w.cell? ⟨b, off + j * 4, none⟩ = some (.int .i64 (m.getD j (0, 0, 0, 0)).1) /\ w.cell? ⟨b, off + j * 4 + 1, none⟩ = some (.int .i64 (m.getD j (0, 0, 0, 0)).2.1) /\ w.cell? ⟨b, off + j * 4 + 2, none⟩ = some (.int .i64 (m.getD j (0, 0, 0, 0)).2.2.1) /\ w.cell? ⟨b, off + j * 4 + 3, none⟩ = some (.int .i64 (m.getD j (0, 0, 0, 0)).2.2.2)) :
   w.cell? ⟨b, off + k * 4, none⟩ = some (.int .i64 m[k].1) /\ w.cell? ⟨b, off + k * 4 + 1, none⟩ = some (.int .i64 m[k].2.1) /\ w.cell? ⟨b, off + k * 4 + 2, none⟩ = some (.int .i64 m[k].2.2.1) /\ w.cell? ⟨b, off + k * 4 + 3, none⟩ = some (.int .i64 m[k].2.2.2) := by
 have := hc k hk
 rwa [List.getD_eq_getElem?_getD, List.getElem?_eq_getElem hk] at this
theorem IvAt.get {w : World} {b off : Nat} {m : List (Int × Int)} {k : Nat} (hk : k < m.length) (hc : ∀ j, j < m.length -> w.cell? ⟨b, off + j * 2, none⟩ = some (.int .i64 (m.getD j (0, 0)).1) /\ w.cell? ⟨b, off + j * 2 + 1, none⟩ = some (.int .i64 (m.getD j (0, 0)).2)) :
   w.cell? ⟨b, off + k * 2, none⟩ = some (.int .i64 m[k].1) /\ w.cell? ⟨b, off + k * 2 + 1, none⟩ = some (.int .i64 m[k].2) := by
 have := hc k hk
 rwa [List.getD_eq_getElem?_getD, List.getElem?_eq_getElem hk] at this
def EdOne (w : World) (b off : Nat) (e : Ed) : Prop :=
 w.cell? ⟨b, off, none⟩ = some (.int .i64 e.1) /\ w.cell? ⟨b, off + 1, none⟩ = some (.int .i64 e.2.1) /\ ∃ la lc, w.cell? ⟨b, off + 2, none⟩ = some (.slice la e.2.2.length lc) /\ LgAt w la e.2.2 /\ e.2.2.length <= lc /\ lc <= 9223372036854775807
def EdAt (w : World) (ao : Option Addr) (m : List Ed) : Prop :=
 m = [] \/ ∃ b off, ao = some ⟨b, off, none⟩ /\ b < w.heap.size /\ ∀ j (h : j < m.length), EdOne w b (off + j * 3) m[j]
theorem EdOne.below {w w' : World} {b off : Nat} {e : Ed} (hlt : b < w.heap.size) (h : EdOne w b off e) (hb : Below w.heap.size w w') : EdOne w' b off e := by
 obtain ⟨h0, h1, la, lc, h2, hl, hn, hm⟩ := h
 exact ⟨by rw [hb.cell (p := ⟨b, off, none⟩) hlt, h0], by rw [hb.cell (p := ⟨b, off + 1, none⟩) hlt, h1], la, lc, by rw [hb.cell (p := ⟨b, off + 2, none⟩) hlt, h2], hl.below hb, hn, hm⟩
theorem EdAt.below {w w' : World} {ao : Option Addr} {m : List Ed} (h : EdAt w ao m) (hb : Below w.heap.size w w') : EdAt w' ao m := by
 rcases h with h | ⟨b, off, rfl, hlt, hc⟩
 · exact .inl h
 · exact .inr ⟨b, off, rfl, Nat.lt_of_lt_of_le hlt hb.size, fun j hj => (hc j hj).below hlt hb⟩
structure GAt (w : World) (la ea : Option Addr) (g : Gr) : Prop where
 lv : IvAt w la g.lives
 ed : EdAt w ea g.edges
 nl : g.lives.length <= 9223372036854775807
 ne : g.edges.length <= 9223372036854775807
theorem GAt.below {w w' : World} {la ea : Option Addr} {g : Gr} (h : GAt w la ea g) (hb : Below w.heap.size w w') : GAt w' la ea g := ⟨h.lv.below hb, h.ed.below hb, h.nl, h.ne⟩
theorem within_any (n lo hi : Int) (w : World) : Calls Seq.prog 44 #[.int .i64 n, .int .i64 lo, .int .i64 hi] w fun e w' => e = .returned (.bool (inR n lo hi)) /\ w' = w := by
 by_cases g1 : lo <= n
 · by_cases g2 : n <= hi
   · have HC := hideg ((inR_iff n lo hi).2 ⟨g1, g2⟩)
     go_enter Seq.func44, Tryz.ntmps44
     go_wp2
     go_ret
     exact ⟨ret_bool HC.out.symm, rfl⟩
   · have HC := hideg (inR_no (n := n) (lo := lo) (hi := hi) (fun h => g2 h.2))
     go_enter Seq.func44, Tryz.ntmps44
     go_wp2
     go_ret
     exact ⟨ret_bool HC.out.symm, rfl⟩
 · have HC := hideg (inR_no (n := n) (lo := lo) (hi := hi) (fun h => g1 h.1))
   go_enter Seq.func44, Tryz.ntmps44
   go_wp2
   go_ret
   exact ⟨ret_bool HC.out.symm, rfl⟩
theorem span_any (a b h : Int) (w : World) : Calls Seq.prog 45 #[.int .i64 a, .int .i64 b, .int .i64 h] w fun e w' => e = .returned (.bool (spanB a b h)) /\ w' = w := by
 by_cases g1 : 0 <= a
 · by_cases g2 : a < b
   · by_cases g3 : b <= h
     · have HC := hideg ((spanB_iff a b h).2 ⟨g1, g2, g3⟩)
       go_enter Seq.func45, Tryz.ntmps45
       go_wp2
       go_ret
       exact ⟨ret_bool HC.out.symm, rfl⟩
     · have HC := hideg (spanB_no (a := a) (b := b) (h := h) (fun k => g3 k.2.2))
       go_enter Seq.func45, Tryz.ntmps45
       go_wp2
       go_ret
       exact ⟨ret_bool HC.out.symm, rfl⟩
   · have HC := hideg (spanB_no (a := a) (b := b) (h := h) (fun k => g2 k.2.1))
     go_enter Seq.func45, Tryz.ntmps45
     go_wp2
     go_ret
     exact ⟨ret_bool HC.out.symm, rfl⟩
 · have HC := hideg (spanB_no (a := a) (b := b) (h := h) (fun k => g1 k.1))
   go_enter Seq.func45, Tryz.ntmps45
   go_wp2
   go_ret
   exact ⟨ret_bool HC.out.symm, rfl⟩
set_option maxHeartbeats 1000000 in
theorem fits_any (l : Lg) (h : Int) (w : World) : Calls Seq.prog 62 #[.agg #[.int .i64 l.1, .int .i64 l.2.1, .int .i64 l.2.2.1, .int .i64 l.2.2.2], .int .i64 h] w fun e w' => e = .returned (.bool (fitB l h)) /\ Below w.heap.size w w' := by
 have HB := hideg (gal w)
 have HF : Hid (fitB l h = (spanB l.1 l.2.1 h && (inR l.2.2.1 1 50 && inR l.2.2.2 0 1000))) := rfl
 cases e1 : spanB l.1 l.2.1 h <;> cases e2 : inR l.2.2.1 1 50 <;> cases e3 : inR l.2.2.2 0 1000 <;> rw [e1, e2, e3] at HF
 all_goals
   go_enter Seq.func62, Tryz.ntmps62
   go_wp2_with (first | (go_at_call 45; refine (span_any _ _ _ _).mono ?_; rintro e w' ⟨rfl, rfl⟩) | (go_at_call 44; refine (within_any _ _ _ _).mono ?_; rintro e w' ⟨rfl, rfl⟩))
   go_ret
   exact ⟨ret_bool HF.out.symm, HB.out _⟩
set_option maxRecDepth 100000 in
theorem gHasV_any (h : Int) (la ea : Option Addr) (nl lc ne ec : Nat) (v : Int) (w : World) (hnl : nl <= 12) :
   Calls Seq.prog 51 #[.agg #[.int .i64 h, .slice la nl lc, .slice ea ne ec], .int .i64 v] w fun r w' => r = .returned (.bool (inR v 0 ((nl : Int) - 1))) /\ Below w.heap.size w w' := by
 have HB := hideg (gal w)
 go_enter Seq.func51, Tryz.ntmps51
 go_wp2_with (go_at_call 44; refine (within_any _ _ _ _).mono ?_; rintro e w' ⟨rfl, rfl⟩)
 go_ret
 exact ⟨rfl, HB.out _⟩
end Go.Proofs.YthgelfnflafoiaeGreat.Q
