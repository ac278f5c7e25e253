/-
  DERIVED. GIVEN WITH THE SEED: THE CARDS: each row of YtjpndajbkemnlaaDoorRows.lean that lists a variable, with what it lists TIED to the program's text (the seventh form; the later family's looks); each row that meets fmt, with fmt's text TOLD by the authors' own Lean function (tested against real Go, not proved from fmt's source: count such statements apart). THE CARD IS WHAT COUNTS. Prove the row's statement (the work); the ties are given (YtjpndajbkemnlaaDoorTie.lean); close each card by the builder's one call (the guide's Derived/Test/ToyasCard.lean, 'card_holds'). Laid BY PROGRAM, IN A SANDBOX (cutbox-door.mjs). By AI agents, Wed Nov 11 2026. No macro, syntax, notation, axiom, sorry.
-/
import Derived.Test.YtjpndajbkemnlaaDoorRows
import GoSem.ClaimSeven
namespace Go.Proofs.YtjpndajbkemnlaaDoor
namespace Rows

/-- THE TIED CARD OF 'remitterlaw02.CurrencyBoth'. -/
def currencyBothCard : Claim7 := { stood := { row := currencyBothRow, standIns := [], harness := (true, "0f93339d9dfaa58ae4d255e4688d7c59ebcc6d20472997d13411c3b3157893e3"), looks := false }, kinds := [], alts := [], laidByText := true, laidKinds := [.data, .data, .data], laidTests := true, laidLooks := .later }
def CurrencyBothCardSaid : Prop := Claim7.holds Tryd.pinned (.plain (OpenSpec.ofChange currencyBothSpec)) currencyBothCard

/-- THE SECOND FORM's CARD OF 'remitterlaw02.CurrencyBoth'. -/
def currencyBothUptoCard : Claim7 := { stood := { row := currencyBothUptoRow, standIns := [], harness := (true, "0f93339d9dfaa58ae4d255e4688d7c59ebcc6d20472997d13411c3b3157893e3"), looks := false }, kinds := [], alts := [], laidByText := true, laidKinds := [.data, .data, .data], laidTests := true, laidLooks := .later }
def CurrencyBothUptoCardSaid : Prop := Claim7.holds Tryd.pinned (.plain (OpenSpec.upto currencyBothSpec)) currencyBothUptoCard
end Rows
end Go.Proofs.YtjpndajbkemnlaaDoor
