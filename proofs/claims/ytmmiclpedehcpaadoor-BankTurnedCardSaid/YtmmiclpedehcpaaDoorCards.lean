/-
  DERIVED. GIVEN WITH THE SEED: THE CARDS: each row of YtmmiclpedehcpaaDoorRows.lean that lists a variable, with what it lists TIED to the program's text (the seventh form; the later family's looks); each row that meets fmt, with fmt's text TOLD by the authors' own Lean function (tested against real Go, not proved from fmt's source: count such statements apart). THE CARD IS WHAT COUNTS. Prove the row's statement (the work); the ties are given (YtmmiclpedehcpaaDoorTie.lean); close each card by the builder's one call (the guide's Derived/Test/ToyasCard.lean, 'card_holds'). Laid BY PROGRAM, IN A SANDBOX (cutbox-door.mjs). By AI agents, Wed Nov 11 2026. No macro, syntax, notation, axiom, sorry.
-/
import Derived.Test.YtmmiclpedehcpaaDoorRows
import GoSem.ClaimSeven
namespace Go.Proofs.YtmmiclpedehcpaaDoor
namespace Rows

/-- THE TIED CARD OF 'syllogismlaw03.BankPlays'. -/
def bankPlaysCard : Claim7 := { stood := { row := bankPlaysRow, standIns := [], harness := (true, "524586d8bcf5c6d43a10a71c20f083c35832d9aad690744abd62c0e3bd600db4"), looks := false }, kinds := [], alts := [], laidByText := true, laidKinds := [.data], laidTests := true, laidLooks := .later }
def BankPlaysCardSaid : Prop := Claim7.holds Tryd.pinned (.plain (OpenSpec.ofChange bankPlaysSpec)) bankPlaysCard

/-- THE TIED CARD OF 'syllogismlaw03.BankNil'. -/
def bankNilCard : Claim7 := { stood := { row := bankNilRow, standIns := [], harness := (true, "524586d8bcf5c6d43a10a71c20f083c35832d9aad690744abd62c0e3bd600db4"), looks := false }, kinds := [], alts := [], laidByText := true, laidKinds := [.data], laidTests := true, laidLooks := .later }
def BankNilCardSaid : Prop := Claim7.holds Tryd.pinned (.plain (OpenSpec.ofChange bankNilSpec)) bankNilCard

/-- THE TIED CARD OF 'syllogismlaw03.BankShares'. -/
def bankSharesCard : Claim7 := { stood := { row := bankSharesRow, standIns := [], harness := (true, "524586d8bcf5c6d43a10a71c20f083c35832d9aad690744abd62c0e3bd600db4"), looks := false }, kinds := [], alts := [], laidByText := true, laidKinds := [.data], laidTests := true, laidLooks := .later }
def BankSharesCardSaid : Prop := Claim7.holds Tryd.pinned (.plain (OpenSpec.ofChange bankSharesSpec)) bankSharesCard

/-- THE TIED CARD OF 'syllogismlaw03.BankTurned'. -/
def bankTurnedCard : Claim7 := { stood := { row := bankTurnedRow, standIns := [], harness := (true, "524586d8bcf5c6d43a10a71c20f083c35832d9aad690744abd62c0e3bd600db4"), looks := false }, kinds := [], alts := [], laidByText := true, laidKinds := [.data], laidTests := true, laidLooks := .later }
def BankTurnedCardSaid : Prop := Claim7.holds Tryd.pinned (.plain (OpenSpec.ofChange bankTurnedSpec)) bankTurnedCard

/-- THE SECOND FORM's CARD OF 'syllogismlaw03.BankPlays'. -/
def bankPlaysUptoCard : Claim7 := { stood := { row := bankPlaysUptoRow, standIns := [], harness := (true, "524586d8bcf5c6d43a10a71c20f083c35832d9aad690744abd62c0e3bd600db4"), looks := false }, kinds := [], alts := [], laidByText := true, laidKinds := [.data], laidTests := true, laidLooks := .later }
def BankPlaysUptoCardSaid : Prop := Claim7.holds Tryd.pinned (.plain (OpenSpec.upto bankPlaysSpec)) bankPlaysUptoCard

/-- THE SECOND FORM's CARD OF 'syllogismlaw03.BankNil'. -/
def bankNilUptoCard : Claim7 := { stood := { row := bankNilUptoRow, standIns := [], harness := (true, "524586d8bcf5c6d43a10a71c20f083c35832d9aad690744abd62c0e3bd600db4"), looks := false }, kinds := [], alts := [], laidByText := true, laidKinds := [.data], laidTests := true, laidLooks := .later }
def BankNilUptoCardSaid : Prop := Claim7.holds Tryd.pinned (.plain (OpenSpec.upto bankNilSpec)) bankNilUptoCard

/-- THE SECOND FORM's CARD OF 'syllogismlaw03.BankShares'. -/
def bankSharesUptoCard : Claim7 := { stood := { row := bankSharesUptoRow, standIns := [], harness := (true, "524586d8bcf5c6d43a10a71c20f083c35832d9aad690744abd62c0e3bd600db4"), looks := false }, kinds := [], alts := [], laidByText := true, laidKinds := [.data], laidTests := true, laidLooks := .later }
def BankSharesUptoCardSaid : Prop := Claim7.holds Tryd.pinned (.plain (OpenSpec.upto bankSharesSpec)) bankSharesUptoCard

/-- THE SECOND FORM's CARD OF 'syllogismlaw03.BankTurned'. -/
def bankTurnedUptoCard : Claim7 := { stood := { row := bankTurnedUptoRow, standIns := [], harness := (true, "524586d8bcf5c6d43a10a71c20f083c35832d9aad690744abd62c0e3bd600db4"), looks := false }, kinds := [], alts := [], laidByText := true, laidKinds := [.data], laidTests := true, laidLooks := .later }
def BankTurnedUptoCardSaid : Prop := Claim7.holds Tryd.pinned (.plain (OpenSpec.upto bankTurnedSpec)) bankTurnedUptoCard
end Rows
end Go.Proofs.YtmmiclpedehcpaaDoor
