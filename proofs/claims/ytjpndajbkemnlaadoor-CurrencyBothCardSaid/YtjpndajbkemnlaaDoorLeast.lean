/-
  Least, as one contract.
-/
import Derived.Test.YtjpndajbkemnlaaDoorDecD
namespace Go.Proofs.YtjpndajbkemnlaaDoor
open Go.RowKit

/-- What Least tells. -/
def leastV (g : Bool) (c s : Int) : Int × Int := if goodB g c s then ((lst s.toNat c).1, ((lst s.toNat c).2 : Int)) else (c, s)
theorem least_any (g : Bool) (c s : Int) (w : World) :
    Calls Tryd.prog 19 #[.agg #[.bool g, .int .i64 c, .int .i64 s]] w fun e w' => e = .returned (.agg #[.bool g, .int .i64 (leastV g c s).1, .int .i64 (leastV g c s).2]) ∧ Below w.heap.size w w' := by
  cases hG : goodB g c s
  · rw [leastV, hG]
    exact least_bad g c s w hG
  · rw [leastV, hG]
    obtain ⟨_, _, h2, _⟩ := goodB_parts hG
    obtain ⟨s, rfl⟩ : ∃ n : Nat, s = n := ⟨s.toNat, by omega⟩
    exact least_good g c s w hG
end Go.Proofs.YtjpndajbkemnlaaDoor
