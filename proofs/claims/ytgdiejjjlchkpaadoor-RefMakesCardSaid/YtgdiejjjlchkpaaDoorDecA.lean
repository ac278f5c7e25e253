/-
  The contracts of package decimal, first part: Good, power.
-/
import Derived.Test.YtgdiejjjlchkpaaDoorRows
import Derived.Test.YtgdiejjjlchkpaaDoorPlain
import Derived.WalkKit
import Derived.WalkSpells
import Derived.WalkLawsBesides
namespace Go.Proofs.YtgdiejjjlchkpaaDoor
open Go.RowKit

theorem bcell {W w1 : World} (hb : Below W.heap.size W w1) : (∀ b o, b < W.heap.size → w1.cell? ⟨b, o, none⟩ = W.cell? ⟨b, o, none⟩) ∧ (∀ b o, b < W.heap.size → w1.frozen? ⟨b, o, none⟩ = W.frozen? ⟨b, o, none⟩) :=
  ⟨fun b o h => hb.cell (p := ⟨b, o, none⟩) h, fun b o h => hb.frozen (p := ⟨b, o, none⟩) h⟩
/-- Block b holds a number. -/
def BoxNum (w : World) (b : Nat) (g : Bool) (c s : Int) : Prop :=
  b < w.heap.size ∧ w.cell? ⟨b, 0, none⟩ = some (.bool g) ∧ w.cell? ⟨b, 1, none⟩ = some (.int .i64 c) ∧ w.cell? ⟨b, 2, none⟩ = some (.int .i64 s)
theorem BoxNum.below {w w' : World} {b : Nat} {g : Bool} {c s : Int} (h : BoxNum w b g c s) (hb : Below w.heap.size w w') : BoxNum w' b g c s :=
  ⟨Nat.lt_of_lt_of_le h.1 hb.size, (hb.cell (p := ⟨b, 0, none⟩) h.1).trans h.2.1, (hb.cell (p := ⟨b, 1, none⟩) h.1).trans h.2.2.1, (hb.cell (p := ⟨b, 2, none⟩) h.1).trans h.2.2.2⟩
theorem BoxNum.new (w : World) (g : Bool) (c s : Int) (t : TypeId) : BoxNum (w.alloc (.cells #[.bool g, .int .i64 c, .int .i64 s] t)) w.heap.size g c s :=
  ⟨by simp, by simp [go_sem], by simp [go_sem], by simp [go_sem]⟩
theorem BoxNum.alloc {w : World} {b : Nat} {g : Bool} {c s : Int} (h : BoxNum w b g c s) (o : Obj) : BoxNum (w.alloc o) b g c s :=
  h.below ((Below.refl _ _).alloc (Nat.le_refl _) _)
theorem hid {p : Prop} (h : p) : Hid p := h
theorem ret_int {k : IntKind} {a b : Int} (h : a = b) : Ending.returned (.int k a) = .returned (.int k b) := by rw [h]
theorem int_eq {k : IntKind} {a b : Int} (h : a = b) : Value.int k a = Value.int k b := by rw [h]

end Go.Proofs.YtgdiejjjlchkpaaDoor
