/-
  Numbers in blocks, call by call.
-/
import Derived.Test.YtjpndajbkemnlaaDoorDecD
namespace Go.Proofs.YtjpndajbkemnlaaDoor
open Go.RowKit

abbrev agg (g : Bool) (c s : Int) : Value := .agg #[.bool g, .int .i64 c, .int .i64 s]
/-- Numbers in blocks. -/
def Boxes (w : World) : List (Nat × Bool × Int × Int) → Prop
  | [] => True
  | x :: l => BoxNum w x.1 x.2.1 x.2.2.1 x.2.2.2 ∧ Boxes w l
theorem Boxes.below {w w' : World} (hb : Below w.heap.size w w') : ∀ {l}, Boxes w l → Boxes w' l
  | [], _ => trivial
  | _ :: _, h => ⟨h.1.below hb, Boxes.below hb h.2⟩
theorem Boxes.alloc {w : World} {l} (o : Obj) (h : Boxes w l) : Boxes (w.alloc o) l := h.below ((Below.refl _ _).alloc (Nat.le_refl _) _)
/-- What stands when a call has returned: nothing that lay before the law began has turned, and the boxes hold what they held. -/
def Now (w0 w : World) (l : List (Nat × Bool × Int × Int)) : Prop := Below w0.heap.size w0 w ∧ Boxes w l
theorem Now.below {w0 w w' : World} {l} (h : Now w0 w l) (hb : Below w.heap.size w w') : Now w0 w' l := ⟨h.1.trans (hb.mono h.1.size), h.2.below hb⟩
theorem Now.alloc {w0 w : World} {l} (h : Now w0 w l) (o : Obj) : Now w0 (w.alloc o) l := ⟨h.1.alloc h.1.size _, h.2.alloc o⟩
theorem Now.drew {w0 w : World} {l} (h : Now w0 w l) : Now w0 w.drew l := h.below (Below.refl _ _).drew
theorem Now.drewN {w0 w : World} {l} (h : Now w0 w l) (n : Nat) : Now w0 (w.drewN n) l := h.below (below_drewN (Below.refl _ _) n)
theorem Now.start (w : World) : Now w w [] := ⟨Below.refl _ _, trivial⟩
/-- A new box. -/
theorem Now.box {w0 w : World} {l} (h : Now w0 w l) (g : Bool) (c s : Int) (t : TypeId) : Now w0 (w.alloc (.cells #[.bool g, .int .i64 c, .int .i64 s] t)) ((w.heap.size, g, c, s) :: l) :=
  ⟨(h.alloc _).1, BoxNum.new w g c s t, (h.alloc _).2⟩
end Go.Proofs.YtjpndajbkemnlaaDoor
