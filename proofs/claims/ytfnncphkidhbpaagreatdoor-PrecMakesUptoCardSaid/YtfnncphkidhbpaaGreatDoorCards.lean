/-
  DERIVED. GIVEN WITH THE SEED: THE CARDS: each row of YtfnncphkidhbpaaGreatDoorRows.lean that lists a variable, with what it lists TIED to the program's text (the seventh form; the later family's looks); each row that meets fmt, with fmt's text TOLD by the authors' own Lean function (tested against real Go, not proved from fmt's source: count such statements apart). THE CARD IS WHAT COUNTS. Prove the row's statement (the work); the ties are given (YtfnncphkidhbpaaGreatDoorTie.lean); close each card by the builder's one call (the guide's Derived/Test/ToyasCard.lean, 'card_holds'). Laid BY PROGRAM, IN A SANDBOX (cutbox-door.mjs). By AI agents, Wed Nov 11 2026. No macro, syntax, notation, axiom, sorry.
-/
import Derived.Test.YtfnncphkidhbpaaGreatDoorRows
import GoSem.ClaimSeven
namespace Go.Proofs.YtfnncphkidhbpaaGreatDoor
namespace Rows

/-- THE TIED CARD OF 'syllogismlaw07.PrecChecks'. -/
def precChecksCard : Claim7 := { stood := { row := precChecksRow, standIns := [], harness := (true, "9ef92571e5ed5b9268f152b5fa249609c5ecde0522e96807d38c76876031b054"), looks := false }, kinds := [], alts := [], laidByText := true, laidKinds := [.data], laidTests := true, laidLooks := .later }
def PrecChecksCardSaid : Prop := Claim7.holds Tryz.pinned (.plain (OpenSpec.ofChange precChecksSpec)) precChecksCard

/-- THE TIED CARD OF 'syllogismlaw07.PrecMakes'. -/
def precMakesCard : Claim7 := { stood := { row := precMakesRow, standIns := [], harness := (true, "9ef92571e5ed5b9268f152b5fa249609c5ecde0522e96807d38c76876031b054"), looks := false }, kinds := [], alts := [], laidByText := true, laidKinds := [.data], laidTests := true, laidLooks := .later }
def PrecMakesCardSaid : Prop := Claim7.holds Tryz.pinned (.plain (OpenSpec.ofChange precMakesSpec)) precMakesCard

/-- THE SECOND FORM's CARD OF 'syllogismlaw07.PrecChecks'. -/
def precChecksUptoCard : Claim7 := { stood := { row := precChecksUptoRow, standIns := [], harness := (true, "9ef92571e5ed5b9268f152b5fa249609c5ecde0522e96807d38c76876031b054"), looks := false }, kinds := [], alts := [], laidByText := true, laidKinds := [.data], laidTests := true, laidLooks := .later }
def PrecChecksUptoCardSaid : Prop := Claim7.holds Tryz.pinned (.plain (OpenSpec.upto precChecksSpec)) precChecksUptoCard

/-- THE SECOND FORM's CARD OF 'syllogismlaw07.PrecMakes'. -/
def precMakesUptoCard : Claim7 := { stood := { row := precMakesUptoRow, standIns := [], harness := (true, "9ef92571e5ed5b9268f152b5fa249609c5ecde0522e96807d38c76876031b054"), looks := false }, kinds := [], alts := [], laidByText := true, laidKinds := [.data], laidTests := true, laidLooks := .later }
def PrecMakesUptoCardSaid : Prop := Claim7.holds Tryz.pinned (.plain (OpenSpec.upto precMakesSpec)) precMakesUptoCard
end Rows
end Go.Proofs.YtfnncphkidhbpaaGreatDoor
