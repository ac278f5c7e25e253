/-
  The document's own answer for folded lines: Fold.
-/
import Derived.Test.YtgdiejjjlchkpaaDoorChB
import Derived.Lib.Slices
import Derived.Deep.DeepCutAuto
import Derived.Maps.AppendAt
namespace Go.Proofs.YtgdiejjjlchkpaaDoor
open Go.RowKit

/-- Lines so far, how many bytes are kept, whether all were, the line that is not full. -/
structure FSt where
  out : List (List UInt8)
  kept : Nat
  same : Bool
  line : List UInt8
/-- The byte that is put for a byte. -/
def fput (line : List UInt8) (c : UInt8) : UInt8 := if line = [] ∧ (c = 58 ∨ c = 45) then 46 else c
def fsame (s : List UInt8) (i : Nat) (c : UInt8) (same : Bool) : Bool := same && (decide (i < s.length) && (s.getD i 0 == c))
def fstep (s : List UInt8) (W i : Nat) (c : UInt8) (st : FSt) : FSt :=
  let l := st.line ++ [fput st.line c]
  let m := fsame s i (fput st.line c) st.same
  { out := if l.length = W then st.out ++ [l] else st.out, kept := if m then st.kept + 1 else st.kept, same := m, line := if l.length = W then [] else l }
def frun (s : List UInt8) (W L : Nat) : Nat → List UInt8 → FSt → FSt
  | _, [], st => st
  | i, c :: r, st => if st.out.length < L then frun s W L (i + 1) r (fstep s W i c st) else st
def finit : FSt := { out := [], kept := 0, same := true, line := [] }
def fend (s : List UInt8) (W L : Nat) : FSt := frun s W L 0 (subL s) finit
/-- The lines, and how many bytes are kept. -/
def foldV (s : List UInt8) (W L : Nat) : List (List UInt8) := let st := fend s W L; if st.line = [] then st.out else st.out ++ [st.line]
def keptV (s : List UInt8) (W L : Nat) : Nat := (fend s W L).kept

theorem mk_toList (a : List UInt8) : (⟨a.toArray⟩ : ByteArray).toList = a := by rw [ByteArray.toList_eq]
theorem one_toList (c : UInt8) : (⟨#[c]⟩ : ByteArray).toList = [c] := mk_toList [c]
theorem one_yes {c d : UInt8} (h : c = d) : ([c] == [d]) = true := by rw [h]; exact beq_self_eq_true _
theorem one_no {c d : UInt8} (h : ¬ c = d) : ([c] == [d]) = false := by rw [beq_eq_false_iff_ne]; simpa using h
theorem ext_one (s : ByteArray) (i : Nat) (h : i < s.size) : s.extract i (i + 1) = ⟨#[s[i]]⟩ := ib_str_eq (by
  rw [ext_lst, take_snoc s i h, List.drop_append_of_le_length (by simp; omega), List.drop_of_length_le (by simp; omega)]
  rfl)
theorem drop_cons (t : ByteArray) (k : Nat) (h : k < t.size) : t.data.toList.drop k = t[k] :: t.data.toList.drop (k + 1) := by
  rw [List.drop_eq_getElem_cons (by simpa using h)]
  rfl

end Go.Proofs.YtgdiejjjlchkpaaDoor
