/-
  DERIVED. GIVEN WITH THE SEED: THE CARDS: each row of YtfnncphkidhbpaaDoorRows.lean that lists a variable, with what it lists TIED to the program's text (the seventh form; the later family's looks); each row that meets fmt, with fmt's text TOLD by the authors' own Lean function (tested against real Go, not proved from fmt's source: count such statements apart). THE CARD IS WHAT COUNTS. Prove the row's statement (the work); the ties are given (YtfnncphkidhbpaaDoorTie.lean); close each card by the builder's one call (the guide's Derived/Test/ToyasCard.lean, 'card_holds'). Laid BY PROGRAM, IN A SANDBOX (cutbox-door.mjs). By AI agents, Wed Nov 11 2026. No macro, syntax, notation, axiom, sorry.
-/
import Derived.Test.YtfnncphkidhbpaaDoorRows
import GoSem.ClaimSeven
namespace Go.Proofs.YtfnncphkidhbpaaDoor
namespace Rows

/-- THE TIED CARD OF 'syllogismlaw07.PrecHigher'. -/
def precHigherCard : Claim7 := { stood := { row := precHigherRow, standIns := [], harness := (true, "e6e90a49a6b763db7f14cb0b99be880b878a71b851d7064a3178dbc8255046a4"), looks := false }, kinds := [], alts := [], laidByText := true, laidKinds := [.data], laidTests := true, laidLooks := .later }
def PrecHigherCardSaid : Prop := Claim7.holds Tryd.pinned (.plain (OpenSpec.ofChange precHigherSpec)) precHigherCard

/-- THE TIED CARD OF 'syllogismlaw07.PrecMay'. -/
def precMayCard : Claim7 := { stood := { row := precMayRow, standIns := [], harness := (true, "e6e90a49a6b763db7f14cb0b99be880b878a71b851d7064a3178dbc8255046a4"), looks := false }, kinds := [], alts := [], laidByText := true, laidKinds := [.data], laidTests := true, laidLooks := .later }
def PrecMayCardSaid : Prop := Claim7.holds Tryd.pinned (.plain (OpenSpec.ofChange precMaySpec)) precMayCard

/-- THE SECOND FORM's CARD OF 'syllogismlaw07.PrecHigher'. -/
def precHigherUptoCard : Claim7 := { stood := { row := precHigherUptoRow, standIns := [], harness := (true, "e6e90a49a6b763db7f14cb0b99be880b878a71b851d7064a3178dbc8255046a4"), looks := false }, kinds := [], alts := [], laidByText := true, laidKinds := [.data], laidTests := true, laidLooks := .later }
def PrecHigherUptoCardSaid : Prop := Claim7.holds Tryd.pinned (.plain (OpenSpec.upto precHigherSpec)) precHigherUptoCard

/-- THE SECOND FORM's CARD OF 'syllogismlaw07.PrecMay'. -/
def precMayUptoCard : Claim7 := { stood := { row := precMayUptoRow, standIns := [], harness := (true, "e6e90a49a6b763db7f14cb0b99be880b878a71b851d7064a3178dbc8255046a4"), looks := false }, kinds := [], alts := [], laidByText := true, laidKinds := [.data], laidTests := true, laidLooks := .later }
def PrecMayUptoCardSaid : Prop := Claim7.holds Tryd.pinned (.plain (OpenSpec.upto precMaySpec)) precMayUptoCard
end Rows
end Go.Proofs.YtfnncphkidhbpaaDoor
