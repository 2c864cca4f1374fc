/-
  What ReadGraph of the reference answers, and the law GraphReads, walked.
-/
import Derived.Test.YtjjhhmlogddnkaaDoorLReads0
import Derived.Test.YtjjhhmlogddnkaaDoorRReadW
import Derived.Test.YtjjhhmlogddnkaaDoorRReadP
namespace Go.Proofs.YtjjhhmlogddnkaaDoor
open Go.RowKit

theorem ReadGraph_any (s : ByteArray) (w : World) :
    Calls Tryd.prog 15 #[.string s] w fun e w' => ∃ v, e = .returned (.tuple #[v, .int .i64 (parse s.data.toList).2.1, .int .i64 (parse s.data.toList).2.2]) ∧ ReadAs w.heap.size w' v (parse s.data.toList).1 ∧ Below w.heap.size w w' := by
  by_cases h8 : 8192 < s.size
  · exact RRead_large s w h8
  · by_cases h1 : (sp 10 s.data.toList).getLast? = some []
    · by_cases h2 : 1 < (sp 10 s.data.toList).length
      · exact RRead_whole s w (by omega) ⟨h1, h2⟩
      · have h3 : s.data.toList = [] := by
          have h4 := jn_sp 10 s.data.toList
          cases hL : sp 10 s.data.toList with
          | nil => exact absurd hL (sp_ne _ _)
          | cons x t =>
            rw [hL] at h1 h2 h4
            cases t with
            | nil => simp at h1; subst h1; rw [← h4]; rfl
            | cons y t => simp at h2
        have h5 : s = ⟨#[]⟩ := WideShapes.bytes_inj (by rw [h3])
        subst h5
        have hp : parse (⟨#[]⟩ : ByteArray).data.toList = (g0, 1, 3) := rfl
        rw [hp]
        exact RRead_empty w
    · exact RRead_part s w (by omega) h1

theorem reads_walk (s : ByteArray) (W : World) (hM : Ml W.heap.size W) :
    Calls Tryd.prog 4 #[.string s] W fun e W' => e = .returned (.bool true) ∧ Below W.heap.size W W' := reads_over s W hM (fun w => ReadGraph_any s w)

end Go.Proofs.YtjjhhmlogddnkaaDoor
