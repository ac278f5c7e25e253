/-
  No cell of these rows narrows 'for every input' (looked for: loops, veiled, ifaces, maps, wideKeys, modest, calm, conditions, laid).
  DERIVED. THE GIVEN ROWS OF THIS SEAT. 3 by the template 'for every input the law returns true; each argument reads behind the call as it read before'; 0 by the template 'total and deterministic' (their statements: YthpjfhgpmcmdiaaTotals.lean).
  GIVEN WITH THE SEED: the statements are not yours to turn. If you find one false, say at which input.
  Laid BY PROGRAM, IN A SANDBOX (cutbox-rows.mjs): the forced cells as the released guide's own fill.sh prints them over the translation b4a849646d0b13f2… (all of the seat's roots in one cut). By AI agents, Wed Nov 11 2026. No macro, syntax, notation, axiom, sorry.
-/
import Derived.Test.YthpjfhgpmcmdiaaChecked
import GoSem.Claim
import GoSem.ClaimJoined
import GoSem.ClaimMapViews
import Derived.JoinedTies
import Derived.KernelRfl
namespace Go.Proofs.Ythpjfhgpmcmdiaa
/- THE CELL 'sum', in the pinned program and in every row, IS THE sha256 OF THE DUMP (.gsa) THAT YthpjfhgpmcmdiaaProg.lean LOADS. Nothing in Lean hashes anything: it is a label: what it is worth is what the hold of that sum in a sandbox is worth. -/
noncomputable def Try.pinned : Pinned := { name := "ythpjfhgpmcmdiaa", sum := "b4a849646d0b13f276624682b8e3ac01a941513c5bf2e36df703fd1ff75911ba", checked := Try.checked }
namespace Rows
def none {H : Type} : Left H := { results := [], args := [] }

/-- 'remitterlaw03.IbanTells': WHATEVER THE INPUT: true; the input reads as it did. -/
def ibanTellsSpec : ChangeSpec := { name := "ibanTells", fn := fun _ => fun
  | [d] => { results := [.lit (.bool true)], args := [d] }
  | _ => none }
def ibanTellsRow : OpenClaim := { program := "ythpjfhgpmcmdiaa", sum := "b4a849646d0b13f276624682b8e3ac01a941513c5bf2e36df703fd1ff75911ba", func := "remitter/remitterlaw03.IbanTells", spec := "ibanTells", unfollowed := true, recurses := true, apart := false }
def IbanTellsSaid : Prop := ibanTellsRow.holds Try.pinned (OpenSpec.ofChange ibanTellsSpec)

/-- ITS FALSE NEIGHBOUR: 'it returns false'. Refute it at one input. -/
def ibanTellsWrong : ChangeSpec := { name := "ibanTells", fn := fun _ => fun
  | [d] => { results := [.lit (.bool false)], args := [d] }
  | _ => none }
def IbanTellsWrongFalsely : Prop := ibanTellsRow.holds Try.pinned (OpenSpec.ofChange ibanTellsWrong)

/-- 'remitterlaw03.IbanMakes': WHATEVER THE INPUT: true; the input reads as it did. -/
def ibanMakesSpec : ChangeSpec := { name := "ibanMakes", fn := fun _ => fun
  | [d1, d2] => { results := [.lit (.bool true)], args := [d1, d2] }
  | _ => none }
def ibanMakesRow : OpenClaim := { program := "ythpjfhgpmcmdiaa", sum := "b4a849646d0b13f276624682b8e3ac01a941513c5bf2e36df703fd1ff75911ba", func := "remitter/remitterlaw03.IbanMakes", spec := "ibanMakes", unfollowed := true, recurses := true, apart := false }
def IbanMakesSaid : Prop := ibanMakesRow.holds Try.pinned (OpenSpec.ofChange ibanMakesSpec)

/-- ITS FALSE NEIGHBOUR: 'it returns false'. Refute it at one input. -/
def ibanMakesWrong : ChangeSpec := { name := "ibanMakes", fn := fun _ => fun
  | [d1, d2] => { results := [.lit (.bool false)], args := [d1, d2] }
  | _ => none }
def IbanMakesWrongFalsely : Prop := ibanMakesRow.holds Try.pinned (OpenSpec.ofChange ibanMakesWrong)

/-- 'remitterlaw03.IbanFinds': WHATEVER THE INPUT: true; the input reads as it did. -/
def ibanFindsSpec : ChangeSpec := { name := "ibanFinds", fn := fun _ => fun
  | [d1, d2, d3, d4] => { results := [.lit (.bool true)], args := [d1, d2, d3, d4] }
  | _ => none }
def ibanFindsRow : OpenClaim := { program := "ythpjfhgpmcmdiaa", sum := "b4a849646d0b13f276624682b8e3ac01a941513c5bf2e36df703fd1ff75911ba", func := "remitter/remitterlaw03.IbanFinds", spec := "ibanFinds", unfollowed := true, recurses := true, apart := false }
def IbanFindsSaid : Prop := ibanFindsRow.holds Try.pinned (OpenSpec.ofChange ibanFindsSpec)

/-- ITS FALSE NEIGHBOUR: 'it returns false'. Refute it at one input. -/
def ibanFindsWrong : ChangeSpec := { name := "ibanFinds", fn := fun _ => fun
  | [d1, d2, d3, d4] => { results := [.lit (.bool false)], args := [d1, d2, d3, d4] }
  | _ => none }
def IbanFindsWrongFalsely : Prop := ibanFindsRow.holds Try.pinned (OpenSpec.ofChange ibanFindsWrong)

/- THE SECOND FORM. 'bulk': how many values and letters a reading holds, each counted each time it is reached (what is shared counts as often as it is met; a slice's spare places count too). A statement '..UptoSaid' is the law's where the arguments, and the package variables that the reading takes, are together of bulk at most 1048576: NARROWER than '..Said'. Prove '..Said' where nothing that the law and all that it calls make is longer than what came in: it says more and counts as full. Else prove '..UptoSaid'. A law counts once. -/
mutual
def uptoBulk {H : Type} : DataW H → Nat
  | .lit (.string bytes) => bytes.length + 1
  | .lit _ => 1
  | .nil => 1
  | .ptr d => uptoBulk d + 1
  | .slice elems spare => uptoBulkAll elems + uptoBulkAll spare + 1
  | .agg parts => uptoBulkAll parts + 1
  | .iface _ d => uptoBulk d + 1
  | .map entries => uptoBulkEntries entries + 1
  | .held _ => 1
def uptoBulkAll {H : Type} : List (DataW H) → Nat
  | [] => 0
  | d :: r => uptoBulk d + uptoBulkAll r
def uptoBulkEntries {H : Type} : List (Lit × DataW H) → Nat
  | [] => 0
  | x :: r => uptoBulkEntry x + uptoBulkEntries r
def uptoBulkEntry {H : Type} : Lit × DataW H → Nat
  | (.string bytes, d) => bytes.length + uptoBulk d + 1
  | (_, d) => uptoBulk d + 1
 end
def uptoSmall : (H : Type) → List (DataW H) → Bool := fun _ ds => decide (uptoBulkAll ds ≤ 1048576)
def OpenSpec.upto (s : _root_.Go.ChangeSpec) : _root_.Go.OpenSpec := { _root_.Go.OpenSpec.ofChange s with cond := some uptoSmall }

/-- 'remitterlaw03.IbanTells', WHERE WHAT IT READS IS OF BULK AT MOST 1048576: true; the input reads as it did. -/
def ibanTellsUptoRow : OpenClaim := { program := "ythpjfhgpmcmdiaa", sum := "b4a849646d0b13f276624682b8e3ac01a941513c5bf2e36df703fd1ff75911ba", func := "remitter/remitterlaw03.IbanTells", spec := "ibanTells", unfollowed := true, recurses := true, apart := false, narrowed := true }
def IbanTellsUptoSaid : Prop := ibanTellsUptoRow.holds Try.pinned (OpenSpec.upto ibanTellsSpec)

/-- 'remitterlaw03.IbanMakes', WHERE WHAT IT READS IS OF BULK AT MOST 1048576: true; the input reads as it did. -/
def ibanMakesUptoRow : OpenClaim := { program := "ythpjfhgpmcmdiaa", sum := "b4a849646d0b13f276624682b8e3ac01a941513c5bf2e36df703fd1ff75911ba", func := "remitter/remitterlaw03.IbanMakes", spec := "ibanMakes", unfollowed := true, recurses := true, apart := false, narrowed := true }
def IbanMakesUptoSaid : Prop := ibanMakesUptoRow.holds Try.pinned (OpenSpec.upto ibanMakesSpec)

/-- 'remitterlaw03.IbanFinds', WHERE WHAT IT READS IS OF BULK AT MOST 1048576: true; the input reads as it did. -/
def ibanFindsUptoRow : OpenClaim := { program := "ythpjfhgpmcmdiaa", sum := "b4a849646d0b13f276624682b8e3ac01a941513c5bf2e36df703fd1ff75911ba", func := "remitter/remitterlaw03.IbanFinds", spec := "ibanFinds", unfollowed := true, recurses := true, apart := false, narrowed := true }
def IbanFindsUptoSaid : Prop := ibanFindsUptoRow.holds Try.pinned (OpenSpec.upto ibanFindsSpec)

end Rows
end Go.Proofs.Ythpjfhgpmcmdiaa
