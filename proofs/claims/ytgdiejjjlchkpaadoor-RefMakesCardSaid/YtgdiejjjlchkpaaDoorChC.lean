/-
  The document's own answer for a text's characters: Chars.
-/
import Derived.Test.YtgdiejjjlchkpaaDoorChS
import Derived.OwnWalk
import Derived.Lib.Slices
import Derived.RangeFuncBox
namespace Go.Proofs.YtgdiejjjlchkpaaDoor
open Go.RowKit

theorem str_info : (Tryd.prog.info? 9).map (fun i => (i.zero, i.size, i.bytes)) = some (some (.string ⟨#[]⟩), 1, 16) := by kernel_rfl
/-- Texts as values. -/
def strVals (ps : List (List UInt8)) : List Value := ps.map fun p => Value.string ⟨p.toArray⟩
theorem strVals_append (a b : List (List UInt8)) : strVals (a ++ b) = strVals a ++ strVals b := by simp [strVals]
theorem strVals_len (a : List (List UInt8)) : (strVals a).length = a.length := by simp [strVals]
theorem ext_mk (s : ByteArray) (i j : Nat) : s.extract i j = ⟨((s.data.toList.drop i).take (j - i)).toArray⟩ := ib_str_eq (by
  rw [ByteArray.data_extract, Array.toList_extract, List.extract_eq_take_drop])

end Go.Proofs.YtgdiejjjlchkpaaDoor
