/-
  The document's own answer for what is substituted: Substitute.
-/
import Derived.Test.YtgdiejjjlchkpaaDoorChC
namespace Go.Proofs.YtgdiejjjlchkpaaDoor
open Go.RowKit

/-- A row, opened. -/
theorem row_open {w : World} {base : Nat} {e : TypeId} {v : Value} {n : Nat} {xs : List Value} (h : w.ownsRow base e 1 v n xs) :
    ∃ a cap, v = .slice a n cap ∧ ∀ j, j < n → ∃ g, a = some ⟨g, 0, none⟩ ∧ g < w.heap.size ∧ w.cell? ⟨g, j, none⟩ = xs[j]? := by
  have h' := h
  obtain ⟨hl, ⟨rfl, rfl⟩ | ⟨g, cap, cur, rfl, _⟩⟩ := h
  · exact ⟨none, 0, rfl, fun j hj => by omega⟩
  · exact ⟨_, _, rfl, fun j hj => ⟨g, rfl, (h'.lt g rfl).2, World.ownsRow.cellAt h' j (by omega)⟩⟩
theorem str_snoc (a : List UInt8) (c : UInt8) : (⟨a.toArray⟩ ++ ⟨#[c]⟩ : ByteArray) = ⟨(a ++ [c]).toArray⟩ := ib_str_eq (by simp)
theorem mk_size (a : List UInt8) : (⟨a.toArray⟩ : ByteArray).size = a.length := by simp [ByteArray.size]

theorem subC_other (p : List UInt8) (h : ¬ ∃ c, p = [c]) : subC p = 46 := by
  match p, h with
  | [], _ => rfl
  | [c], h => exact absurd ⟨c, rfl⟩ h
  | _ :: _ :: _, _ => rfl

end Go.Proofs.YtgdiejjjlchkpaaDoor
