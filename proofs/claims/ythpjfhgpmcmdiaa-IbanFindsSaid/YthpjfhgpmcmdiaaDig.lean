/-
  The digits of a text: the iterator of package decimal, as a contract for every loop body.
-/
import Derived.Test.YthpjfhgpmcmdiaaDecA
import Derived.RangeFuncNested
import Derived.RangeFuncBound
import Derived.RangeFuncCalls
import Derived.RangeFuncLeaves
import Derived.Shelf.Abstract
import Derived.Shelf.RegionOpen
import Derived.OwnWalkIn
import Derived.TacticsInMore
import Derived.LoopNIn
import Derived.LoopIn
import Derived.Handy
namespace Go.Proofs.Ythpjfhgpmcmdiaa
open Go.RowKit Go.Shelf
attribute [local go_sem] Oper.semAt_some

/-- Byte i of a text, as a number (0 beyond its end). -/
def bt (s : ByteArray) (i : Nat) : Nat := (s.data.toList[i]?.getD 0).toNat
/-- Is it a digit? -/
def isDg (s : ByteArray) (i : Nat) : Bool := decide (48 ≤ bt s i) && decide (bt s i ≤ 57)
/-- A place of a text, below 2^63, at which a digit stands. -/
abbrev Dg (s : ByteArray) := { i : Nat // i < s.size ∧ 48 ≤ bt s i ∧ bt s i ≤ 57 }
abbrev Dg.encs {s : ByteArray} (x : Dg s) : Array Value := #[.int .i64 (x.1 : Nat), .int .i64 ((bt s x.1 : Int) - 48)]

/-- The first cell of block B is kept. -/
def KeepsCell (B : Nat) (W W' : World) : Prop := ∀ v, W.cell? ⟨B, 0, none⟩ = some v → W'.cell? ⟨B, 0, none⟩ = some v
theorem keepsCell_t {B : Nat} {X Y Z : World} (h : KeepsCell B X Y) (k : KeepsCell B Y Z) : KeepsCell B X Z := fun v hv => k v (h v hv)
theorem keepsCell_b {B : Nat} {w : World} (W : World) (l : Nat) (o o' : Obj) (_ : w.heap.size ≤ l) (h : W.heap[l]? = some o) (ho : o.isCells = false) (_ : o.isWalk = false) : KeepsCell B W (W.putObj l o') :=
  fun _ hv => cell_kept hv (grownBy_putObj' W l o') (fun r e => by cases e; exact ⟨o, h, ho⟩)
theorem keepsCell_refl (B : Nat) (W : World) : KeepsCell B W W := fun _ hv => hv
theorem keepsCell_set {B : Nat} (W : World) (p : Addr) (u : Value) (hp : p.block ≠ B) : KeepsCell B W (W.setCell p u) :=
  fun _ hv => (World.cell?_setCell_other _ _ _ _ (fun e => hp (by rw [e]))).trans hv

/-- All digits that the text begins with have come. -/
def Dg.all (s : ByteArray) (ys : List (Dg s)) : Prop := ys.map (·.1) = List.range ys.length ∧ (ys.length = s.size ∨ isDg s ys.length = false)
/-- Some of them have come. -/
def Dg.part (s : ByteArray) (ys : List (Dg s)) : Prop := ys.map (·.1) = List.range ys.length

end Go.Proofs.Ythpjfhgpmcmdiaa
