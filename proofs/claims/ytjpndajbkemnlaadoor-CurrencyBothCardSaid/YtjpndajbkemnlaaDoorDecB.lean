/-
  The contracts of package decimal, second part: together and its closure, signed, cmp.Compare.
-/
import Derived.Test.YtjpndajbkemnlaaDoorDecA
import Derived.Deep.QuietTactic
import Derived.BigQuiet
import Derived.Handy

namespace Go.Proofs.YtjpndajbkemnlaaDoor
open Go.RowKit

theorem below3 (w : World) (a b c : Obj) : Below w.heap.size w (((w.alloc a).alloc b).alloc c) :=
  (((Below.refl _ _).alloc (Nat.le_refl _) _).alloc (by simp) _).alloc (by simp; omega) _
theorem new_cell (w : World) (v : Value) (t : TypeId) : (w.alloc (.cells #[v] t)).cell? ⟨w.heap.size, 0, none⟩ = some v := by
  simp [go_sem]

theorem wrap64_id {x : Int} (h : -2000000000000000000 ≤ x) (h' : x ≤ 2000000000000000000) : wrap64 x = x := IntWalk.wrap64_in _ ⟨by omega, by omega⟩

end Go.Proofs.YtjpndajbkemnlaaDoor
