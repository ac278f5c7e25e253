/-
  The document's own Least, as one contract.
-/
import Derived.Test.YtjpndajbkemnlaaRefA
import Derived.Test.YtjpndajbkemnlaaLeast
namespace Go.Proofs.Ytjpndajbkemnlaa
open Go.RowKit
theorem refLeast_any (g : Bool) (c s : Int) (w : World) :
    Calls Try.prog 26 #[.agg #[.bool g, .int .i64 c, .int .i64 s]] w fun e w' => e = .returned (.agg #[.bool g, .int .i64 (leastV g c s).1, .int .i64 (leastV g c s).2]) ∧ Below w.heap.size w w' := by
  cases hG : goodB g c s
  · rw [leastV, hG]
    exact refLeast_bad g c s w hG
  · rw [leastV, hG]
    obtain ⟨_, _, h2, _⟩ := goodB_parts hG
    obtain ⟨s, rfl⟩ : ∃ n : Nat, s = n := ⟨s.toNat, by omega⟩
    exact refLeast_good g c s w hG
end Go.Proofs.Ytjpndajbkemnlaa
