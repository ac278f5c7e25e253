/-
  No cell of these rows narrows 'for every input' (looked for: loops, veiled, ifaces, maps, wideKeys, modest, calm, conditions, laid).
  DERIVED. THE GIVEN ROWS OF THIS SEAT. 3 by the template 'for every input the law returns true; each argument reads behind the call as it read before'; 0 by the template 'total and deterministic' (their statements: YtjpndajbkemnlaaTotals.lean).
  GIVEN WITH THE SEED: the statements are not yours to turn. If you find one false, say at which input.
  Laid BY PROGRAM, IN A SANDBOX (cutbox-rows.mjs): the forced cells as the released guide's own fill.sh prints them over the translation e8ce8525e4944c79… (all of the seat's roots in one cut). By AI agents, Wed Nov 11 2026. No macro, syntax, notation, axiom, sorry.
-/
import Derived.Test.YtjpndajbkemnlaaChecked
import GoSem.Claim
import GoSem.ClaimJoined
import GoSem.ClaimMapViews
import Derived.JoinedTies
import Derived.KernelRfl
namespace Go.Proofs.Ytjpndajbkemnlaa
/- THE CELL 'sum', in the pinned program and in every row, IS THE sha256 OF THE DUMP (.gsa) THAT YtjpndajbkemnlaaProg.lean LOADS. Nothing in Lean hashes anything: it is a label: what it is worth is what the hold of that sum in a sandbox is worth. -/
noncomputable def Try.pinned : Pinned := { name := "ytjpndajbkemnlaa", sum := "e8ce8525e4944c79f150c5dea056a68bd563689f5330608ce348492af110acc5", checked := Try.checked }
namespace Rows
def none {H : Type} : Left H := { results := [], args := [] }

/-- 'remitterlaw02.CurrencyTells': WHATEVER THE INPUT: true; the input reads as it did. -/
def currencyTellsSpec : ChangeSpec := { name := "currencyTells", fn := fun _ => fun
  | [d1, d2, d3] => { results := [.lit (.bool true)], args := [d1, d2, d3] }
  | _ => none }
def currencyTellsRow : OpenClaim := { program := "ytjpndajbkemnlaa", sum := "e8ce8525e4944c79f150c5dea056a68bd563689f5330608ce348492af110acc5", func := "remitter/remitterlaw02.CurrencyTells", spec := "currencyTells", inPlace := ["internal/bytealg.IndexByteString", "internal/bytealg.IndexString", "internal/abi.NoEscape", "internal/bytealg.MakeNoZero"], unfollowed := true, recurses := true, named := ["internal/bytealg.MaxLen"], apart := false }
def CurrencyTellsSaid : Prop := currencyTellsRow.holds Try.pinned (OpenSpec.ofChange currencyTellsSpec)

/-- ITS FALSE NEIGHBOUR: 'it returns false'. Refute it at one input. -/
def currencyTellsWrong : ChangeSpec := { name := "currencyTells", fn := fun _ => fun
  | [d1, d2, d3] => { results := [.lit (.bool false)], args := [d1, d2, d3] }
  | _ => none }
def CurrencyTellsWrongFalsely : Prop := currencyTellsRow.holds Try.pinned (OpenSpec.ofChange currencyTellsWrong)

/-- 'remitterlaw02.CurrencyAll': WHATEVER THE INPUT: true; the input reads as it did. -/
def currencyAllSpec : ChangeSpec := { name := "currencyAll", fn := fun _ => fun
  | [] => { results := [.lit (.bool true)], args := [] }
  | _ => none }
def currencyAllRow : OpenClaim := { program := "ytjpndajbkemnlaa", sum := "e8ce8525e4944c79f150c5dea056a68bd563689f5330608ce348492af110acc5", func := "remitter/remitterlaw02.CurrencyAll", spec := "currencyAll", inPlace := ["internal/bytealg.IndexByteString", "internal/bytealg.IndexString", "internal/abi.NoEscape", "internal/bytealg.MakeNoZero"], unfollowed := true, recurses := true, named := ["internal/bytealg.MaxLen"], apart := false }
def CurrencyAllSaid : Prop := currencyAllRow.holds Try.pinned (OpenSpec.ofChange currencyAllSpec)

/-- ITS FALSE NEIGHBOUR: 'it returns false'. Refute it at one input. -/
def currencyAllWrong : ChangeSpec := { name := "currencyAll", fn := fun _ => fun
  | [] => { results := [.lit (.bool false)], args := [] }
  | _ => none }
def CurrencyAllWrongFalsely : Prop := currencyAllRow.holds Try.pinned (OpenSpec.ofChange currencyAllWrong)

/-- 'remitterlaw02.CurrencySums': WHATEVER THE INPUT: true; the input reads as it did. -/
def currencySumsSpec : ChangeSpec := { name := "currencySums", fn := fun _ => fun
  | [d1, d2, d3, d4] => { results := [.lit (.bool true)], args := [d1, d2, d3, d4] }
  | _ => none }
def currencySumsRow : OpenClaim := { program := "ytjpndajbkemnlaa", sum := "e8ce8525e4944c79f150c5dea056a68bd563689f5330608ce348492af110acc5", func := "remitter/remitterlaw02.CurrencySums", spec := "currencySums", inPlace := ["internal/bytealg.IndexByteString", "internal/bytealg.IndexString", "internal/abi.NoEscape", "internal/bytealg.MakeNoZero"], unfollowed := true, recurses := true, named := ["internal/bytealg.MaxLen"], apart := false }
def CurrencySumsSaid : Prop := currencySumsRow.holds Try.pinned (OpenSpec.ofChange currencySumsSpec)

/-- ITS FALSE NEIGHBOUR: 'it returns false'. Refute it at one input. -/
def currencySumsWrong : ChangeSpec := { name := "currencySums", fn := fun _ => fun
  | [d1, d2, d3, d4] => { results := [.lit (.bool false)], args := [d1, d2, d3, d4] }
  | _ => none }
def CurrencySumsWrongFalsely : Prop := currencySumsRow.holds Try.pinned (OpenSpec.ofChange currencySumsWrong)

/- THE SECOND FORM. 'bulk': how many values and letters a reading holds, each counted each time it is reached (what is shared counts as often as it is met; a slice's spare places count too). A statement '..UptoSaid' is the law's where the arguments, and the package variables that the reading takes, are together of bulk at most 1048576: NARROWER than '..Said'. Prove '..Said' where nothing that the law and all that it calls make is longer than what came in: it says more and counts as full. Else prove '..UptoSaid'. A law counts once. -/
mutual
def uptoBulk {H : Type} : DataW H → Nat
  | .lit (.string bytes) => bytes.length + 1
  | .lit _ => 1
  | .nil => 1
  | .ptr d => uptoBulk d + 1
  | .slice elems spare => uptoBulkAll elems + uptoBulkAll spare + 1
  | .agg parts => uptoBulkAll parts + 1
  | .iface _ d => uptoBulk d + 1
  | .map entries => uptoBulkEntries entries + 1
  | .held _ => 1
def uptoBulkAll {H : Type} : List (DataW H) → Nat
  | [] => 0
  | d :: r => uptoBulk d + uptoBulkAll r
def uptoBulkEntries {H : Type} : List (Lit × DataW H) → Nat
  | [] => 0
  | x :: r => uptoBulkEntry x + uptoBulkEntries r
def uptoBulkEntry {H : Type} : Lit × DataW H → Nat
  | (.string bytes, d) => bytes.length + uptoBulk d + 1
  | (_, d) => uptoBulk d + 1
 end
def uptoSmall : (H : Type) → List (DataW H) → Bool := fun _ ds => decide (uptoBulkAll ds ≤ 1048576)
def OpenSpec.upto (s : _root_.Go.ChangeSpec) : _root_.Go.OpenSpec := { _root_.Go.OpenSpec.ofChange s with cond := some uptoSmall }

/-- 'remitterlaw02.CurrencyTells', WHERE WHAT IT READS IS OF BULK AT MOST 1048576: true; the input reads as it did. -/
def currencyTellsUptoRow : OpenClaim := { program := "ytjpndajbkemnlaa", sum := "e8ce8525e4944c79f150c5dea056a68bd563689f5330608ce348492af110acc5", func := "remitter/remitterlaw02.CurrencyTells", spec := "currencyTells", inPlace := ["internal/bytealg.IndexByteString", "internal/bytealg.IndexString", "internal/abi.NoEscape", "internal/bytealg.MakeNoZero"], unfollowed := true, recurses := true, named := ["internal/bytealg.MaxLen"], apart := false, narrowed := true }
def CurrencyTellsUptoSaid : Prop := currencyTellsUptoRow.holds Try.pinned (OpenSpec.upto currencyTellsSpec)

/-- 'remitterlaw02.CurrencyAll', WHERE WHAT IT READS IS OF BULK AT MOST 1048576: true; the input reads as it did. -/
def currencyAllUptoRow : OpenClaim := { program := "ytjpndajbkemnlaa", sum := "e8ce8525e4944c79f150c5dea056a68bd563689f5330608ce348492af110acc5", func := "remitter/remitterlaw02.CurrencyAll", spec := "currencyAll", inPlace := ["internal/bytealg.IndexByteString", "internal/bytealg.IndexString", "internal/abi.NoEscape", "internal/bytealg.MakeNoZero"], unfollowed := true, recurses := true, named := ["internal/bytealg.MaxLen"], apart := false, narrowed := true }
def CurrencyAllUptoSaid : Prop := currencyAllUptoRow.holds Try.pinned (OpenSpec.upto currencyAllSpec)

/-- 'remitterlaw02.CurrencySums', WHERE WHAT IT READS IS OF BULK AT MOST 1048576: true; the input reads as it did. -/
def currencySumsUptoRow : OpenClaim := { program := "ytjpndajbkemnlaa", sum := "e8ce8525e4944c79f150c5dea056a68bd563689f5330608ce348492af110acc5", func := "remitter/remitterlaw02.CurrencySums", spec := "currencySums", inPlace := ["internal/bytealg.IndexByteString", "internal/bytealg.IndexString", "internal/abi.NoEscape", "internal/bytealg.MakeNoZero"], unfollowed := true, recurses := true, named := ["internal/bytealg.MaxLen"], apart := false, narrowed := true }
def CurrencySumsUptoSaid : Prop := currencySumsUptoRow.holds Try.pinned (OpenSpec.upto currencySumsSpec)

end Rows
end Go.Proofs.Ytjpndajbkemnlaa
