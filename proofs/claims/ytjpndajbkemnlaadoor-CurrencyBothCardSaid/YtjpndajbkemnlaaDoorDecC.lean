/-
  The contracts of package decimal, third part: Cmp, Add.
-/
import Derived.Test.YtjpndajbkemnlaaDoorDecB
import Derived.Deep.RegionHeld3
namespace Go.Proofs.YtjpndajbkemnlaaDoor
open Go.RowKit

theorem below_at {a w w' : World} (hb : Below w.heap.size w w') (h : Below a.heap.size a w) : Below a.heap.size a w' := h.trans (hb.mono h.size)
theorem below_more {a w w' : World} {R : Prop} (hb : Below w.heap.size w w') (h : Below a.heap.size a w ∧ R) : Below a.heap.size a w' :=
  h.1.trans (hb.mono h.1.size)
theorem cell_far3 {w : World} {a : Addr} {x : Value} {r : Nat} (hr : a.block ≠ r) (u0 u1 u2 : Value) (h : w.cell? a = some x) : (((w.setCell ⟨r, 0, none⟩ u0).setCell ⟨r, 1, none⟩ u1).setCell ⟨r, 2, none⟩ u2).cell? a = some x := by
  rw [World.cell?_setCell_other _ _ _ _ (fun e => hr (by rw [← e])), World.cell?_setCell_other _ _ _ _ (fun e => hr (by rw [← e])), World.cell?_setCell_other _ _ _ _ (fun e => hr (by rw [← e]))]
  exact h

end Go.Proofs.YtjpndajbkemnlaaDoor
