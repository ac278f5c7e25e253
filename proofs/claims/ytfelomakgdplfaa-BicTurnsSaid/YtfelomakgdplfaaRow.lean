/-
  The bytes of a text, laid anew ([]byte(s)), turned, and read as a text again (string(b)).
-/
import Derived.Test.YtfelomakgdplfaaByt
import Derived.Laws.IdiomStrings
namespace Go.Proofs.Ytfelomakgdplfaa
open Go.RowKit

/-- Block B holds the bytes l, and may be written. -/
def RowU (W : World) (B : Nat) (l : List UInt8) : Prop := ∀ j (h : j < l.length), W.cell? ⟨B, j, none⟩ = some (.int .u8 (l[j].toNat : Nat)) ∧ W.frozen? ⟨B, j, none⟩ = false
/-- A text's bytes, laid anew. -/
theorem RowU.new (w : World) (s : ByteArray) (cap : Nat) (t : TypeId) : RowU ((w.alloc (.cells (bytesRow s cap) t ((bytesRow s cap).size, (bytesRow s cap).size + 1))).drew) w.heap.size s.data.toList := by
  intro j h
  have hj : j < s.data.size := by simpa using h
  refine ⟨?_, ?_⟩
  · show (w.alloc (.cells (bytesRow s cap) t ((bytesRow s cap).size, (bytesRow s cap).size + 1))).cell? ⟨w.heap.size, j, none⟩ = _
    rw [World.cell?_alloc_mark, bytesRow_at s cap j hj]
    simp
  · show (w.alloc (.cells (bytesRow s cap) t ((bytesRow s cap).size, (bytesRow s cap).size + 1))).frozen? ⟨w.heap.size, j, none⟩ = false
    rw [World.frozen?_alloc_mark, Bool.and_eq_false_iff]
    left
    have : s.data.size ≤ (bytesRow s cap).size := by simp [bytesRow]
    simp; omega
theorem RowU.below {W W' : World} {B : Nat} {l : List UInt8} (h : RowU W B l) (hb : Below W.heap.size W W') (hB : B < W.heap.size) : RowU W' B l := fun j hj =>
  ⟨(hb.cell (p := ⟨B, j, none⟩) hB).trans (h j hj).1, (hb.frozen (p := ⟨B, j, none⟩) hB).trans (h j hj).2⟩
theorem RowU.set {W : World} {B : Nat} {l : List UInt8} (h : RowU W B l) (i : Nat) (hi : i < l.length) (v : UInt8) : RowU (W.setCell ⟨B, i, none⟩ (.int .u8 (v.toNat : Nat))) B (l.set i v) := by
  intro j hj
  have hj' : j < l.length := by simpa using hj
  refine ⟨?_, by rw [World.frozen?_setCell]; exact (h j hj').2⟩
  by_cases e : i = j
  · subst e
    rw [World.cell?_setCell_same' _ _ _ (by rw [(h i hi).1]; rfl)]
    simp
  · rw [World.cell?_setCell_other _ _ _ _ (fun h => e (by cases h; rfl)), (h j hj').1]
    simp [e]
/-- A byte of it turned, and a new block behind. -/
theorem turned_row {w W : World} {B m : Nat} {l : List UInt8} (R : RowU W B l) (hm : m < l.length) (hb : Below w.heap.size w W) (hB : w.heap.size ≤ B) (hz : B < W.heap.size) (c : UInt8) (o : Obj) :
    RowU ((W.setCell ⟨B, m, none⟩ (.int .u8 (c.toNat : Nat))).alloc o) B (l.set m c) ∧ Below w.heap.size w ((W.setCell ⟨B, m, none⟩ (.int .u8 (c.toNat : Nat))).alloc o) ∧ B < ((W.setCell ⟨B, m, none⟩ (.int .u8 (c.toNat : Nat))).alloc o).heap.size := by
  have hz4 : B < (W.setCell ⟨B, m, none⟩ (.int .u8 (c.toNat : Nat))).heap.size := by simpa [go_sem] using hz
  have hb2 := hb.setCell (p := ⟨B, m, none⟩) hB (.int .u8 (c.toNat : Nat))
  exact ⟨(R.set m hm c).below ((Below.refl _ _).alloc (Nat.le_refl _) _) hz4, hb2.alloc hb2.size _, by rw [World.size_alloc]; omega⟩
/-- The text of such a row. -/
theorem RowU.text {W : World} {B n cap : Nat} {l : List UInt8} (h : RowU W B l) (hn : l.length = n) :
    (convert 29 9 (.slice (some ⟨B, 0, none⟩) n cap)).run Try.prog W = .ok (.string ⟨l.toArray⟩) W := by
  subst hn
  exact run_convert_bytes_back W 29 9 5 ⟨B, 0, none⟩ cap l Try.underlying29 Try.underlying5 Try.underlying9 (fun j hj => by
    rw [Addr.add_lit]
    simp only [Nat.zero_add]
    exact (h j hj).1)
end Go.Proofs.Ytfelomakgdplfaa
