/-
  The listed tables, as stage 7's rows list them: what they give, and a world that holds them.
-/
import Derived.Test.YtgdiejjjlchkpaaDoorKit
import Derived.Test.YtgdiejjjlchkpaaDoorRfP
namespace Go.Proofs.YtgdiejjjlchkpaaDoor
open Go.RowKit Go.WideShapes Go.ChangeShapes Go.ChangeAt
set_option maxRecDepth 100000

abbrev laidL : List (String × DataW Unit) := [("math/bits.deBruijn32tab", Rows.laid_math_bits_deBruijn32tab), ("math/bits.deBruijn64tab", Rows.laid_math_bits_deBruijn64tab), ("internal/strconv.uint64pow10", Rows.laid_internal_strconv_uint64pow10)]
theorem deb_data : (Rows.laid_math_bits_deBruijn64tab : DataW Unit) = Lib.tabData .u8 deB64 := by kernel_rfl
theorem deb_keep : laidL.filter (fun x => x.1 == "math/bits.deBruijn64tab") = [("math/bits.deBruijn64tab", Lib.tabData .u8 deB64)] := by
  rw [← deb_data]; rfl
theorem deb_of {W : World} (h : laidMetH Tryd.prog laidL W) : Tab64 W := by
  have h2 := h.filter (fun x => x.1 == "math/bits.deBruijn64tab")
  rw [deb_keep] at h2
  exact Lib.tabIs_of_head (rest := []) deb_global (by kernel_rfl) Tryd.underlying97 Tryd.underlying5 (by kernel_rfl) (by kernel_rfl) h2
theorem rtab_of {W : World} (h : laidMetH Tryd.prog laidL W) (hS : W.ShapedOpen Tryd.prog) : RTab W :=
  ⟨deb_of h, Tryd.laysM144.s1_3 W hS⟩

/-- A block's cells replaced. -/
def putTab (vs : List Value) : Obj → Obj
  | .cells _ t frozen => .cells vs.toArray t frozen
  | o => o
def tab32 : List Value := ([0, 1, 28, 2, 29, 14, 24, 3, 30, 22, 20, 15, 25, 17, 4, 8, 31, 27, 13, 23, 21, 19, 16, 7, 26, 12, 18, 6, 11, 5, 10, 9] : List Int).map (Value.int .u8)
def tab64 : List Value := deB64.map (Value.int .u8)
def tab10 : List Value := (List.range 20).map (fun i => Value.int .u64 ((10 ^ i : Nat) : Int))
/-- Three arrays of integers in the variables' blocks. -/
noncomputable def laidHeap (h : Array Obj) : Array Obj := ((h.modify 2 (putTab tab32)).modify 3 (putTab tab64)).modify 1 (putTab tab10)
noncomputable def laidWorld (os : Os) : World := { World.holding Tryd.prog os ⟨#[], #[], []⟩ with heap := laidHeap (World.holding Tryd.prog os ⟨#[], #[], []⟩).heap }
end Go.Proofs.YtgdiejjjlchkpaaDoor
