/-
  DERIVED. GIVEN WITH THE SEED: THE CARDS: each row of YtmcdnjhdmifpeaaDoorRows.lean that lists a variable, with what it lists TIED to the program's text (the seventh form; the later family's looks); each row that meets fmt, with fmt's text TOLD by the authors' own Lean function (tested against real Go, not proved from fmt's source: count such statements apart). THE CARD IS WHAT COUNTS. Prove the row's statement (the work); the ties are given (YtmcdnjhdmifpeaaDoorTie.lean); close each card by the builder's one call (the guide's Derived/Test/ToyasCard.lean, 'card_holds'). Laid BY PROGRAM, IN A SANDBOX (cutbox-door.mjs). By AI agents, Wed Nov 11 2026. No macro, syntax, notation, axiom, sorry.
-/
import Derived.Test.YtmcdnjhdmifpeaaDoorRows
import GoSem.ClaimSeven
namespace Go.Proofs.YtmcdnjhdmifpeaaDoor
namespace Rows

/-- THE TIED CARD OF 'syllogismlaw01.SignChecks'. -/
def signChecksCard : Claim7 := { stood := { row := signChecksRow, standIns := [], harness := (true, "4b294c5e8aa96ff3b63d5e68f6ad2d7ad5ef3336d7499e9e8b27f29ce9ca0edd"), looks := false }, kinds := [], alts := [], laidByText := true, laidKinds := [.data], laidTests := true, laidLooks := .later }
def SignChecksCardSaid : Prop := Claim7.holds Tryd.pinned (.plain (OpenSpec.ofChange signChecksSpec)) signChecksCard

/-- THE TIED CARD OF 'syllogismlaw01.SignFinds'. -/
def signFindsCard : Claim7 := { stood := { row := signFindsRow, standIns := [], harness := (true, "4b294c5e8aa96ff3b63d5e68f6ad2d7ad5ef3336d7499e9e8b27f29ce9ca0edd"), looks := false }, kinds := [], alts := [], laidByText := true, laidKinds := [.data], laidTests := true, laidLooks := .later }
def SignFindsCardSaid : Prop := Claim7.holds Tryd.pinned (.plain (OpenSpec.ofChange signFindsSpec)) signFindsCard

/-- THE TIED CARD OF 'syllogismlaw01.SignAdds'. -/
def signAddsCard : Claim7 := { stood := { row := signAddsRow, standIns := [], harness := (true, "4b294c5e8aa96ff3b63d5e68f6ad2d7ad5ef3336d7499e9e8b27f29ce9ca0edd"), looks := false }, kinds := [], alts := [], laidByText := true, laidKinds := [.data], laidTests := true, laidLooks := .later }
def SignAddsCardSaid : Prop := Claim7.holds Tryd.pinned (.plain (OpenSpec.ofChange signAddsSpec)) signAddsCard

/-- THE TIED CARD OF 'syllogismlaw01.SignFresh'. -/
def signFreshCard : Claim7 := { stood := { row := signFreshRow, standIns := [], harness := (true, "4b294c5e8aa96ff3b63d5e68f6ad2d7ad5ef3336d7499e9e8b27f29ce9ca0edd"), looks := false }, kinds := [], alts := [], laidByText := true, laidKinds := [.data, .data, .data, .data], laidTests := true, laidLooks := .later }
def SignFreshCardSaid : Prop := Claim7.holds Tryd.pinned (.plain (OpenSpec.ofChange signFreshSpec)) signFreshCard

/-- THE TIED CARD OF 'syllogismlaw01.SignKeeps'. -/
def signKeepsCard : Claim7 := { stood := { row := signKeepsRow, standIns := [], harness := (true, "4b294c5e8aa96ff3b63d5e68f6ad2d7ad5ef3336d7499e9e8b27f29ce9ca0edd"), looks := false }, kinds := [], alts := [], laidByText := true, laidKinds := [.data, .data, .data, .data], laidTests := true, laidLooks := .later }
def SignKeepsCardSaid : Prop := Claim7.holds Tryd.pinned (.plain (OpenSpec.ofChange signKeepsSpec)) signKeepsCard

/-- THE SECOND FORM's CARD OF 'syllogismlaw01.SignChecks'. -/
def signChecksUptoCard : Claim7 := { stood := { row := signChecksUptoRow, standIns := [], harness := (true, "4b294c5e8aa96ff3b63d5e68f6ad2d7ad5ef3336d7499e9e8b27f29ce9ca0edd"), looks := false }, kinds := [], alts := [], laidByText := true, laidKinds := [.data], laidTests := true, laidLooks := .later }
def SignChecksUptoCardSaid : Prop := Claim7.holds Tryd.pinned (.plain (OpenSpec.upto signChecksSpec)) signChecksUptoCard

/-- THE SECOND FORM's CARD OF 'syllogismlaw01.SignFinds'. -/
def signFindsUptoCard : Claim7 := { stood := { row := signFindsUptoRow, standIns := [], harness := (true, "4b294c5e8aa96ff3b63d5e68f6ad2d7ad5ef3336d7499e9e8b27f29ce9ca0edd"), looks := false }, kinds := [], alts := [], laidByText := true, laidKinds := [.data], laidTests := true, laidLooks := .later }
def SignFindsUptoCardSaid : Prop := Claim7.holds Tryd.pinned (.plain (OpenSpec.upto signFindsSpec)) signFindsUptoCard

/-- THE SECOND FORM's CARD OF 'syllogismlaw01.SignAdds'. -/
def signAddsUptoCard : Claim7 := { stood := { row := signAddsUptoRow, standIns := [], harness := (true, "4b294c5e8aa96ff3b63d5e68f6ad2d7ad5ef3336d7499e9e8b27f29ce9ca0edd"), looks := false }, kinds := [], alts := [], laidByText := true, laidKinds := [.data], laidTests := true, laidLooks := .later }
def SignAddsUptoCardSaid : Prop := Claim7.holds Tryd.pinned (.plain (OpenSpec.upto signAddsSpec)) signAddsUptoCard

/-- THE SECOND FORM's CARD OF 'syllogismlaw01.SignFresh'. -/
def signFreshUptoCard : Claim7 := { stood := { row := signFreshUptoRow, standIns := [], harness := (true, "4b294c5e8aa96ff3b63d5e68f6ad2d7ad5ef3336d7499e9e8b27f29ce9ca0edd"), looks := false }, kinds := [], alts := [], laidByText := true, laidKinds := [.data, .data, .data, .data], laidTests := true, laidLooks := .later }
def SignFreshUptoCardSaid : Prop := Claim7.holds Tryd.pinned (.plain (OpenSpec.upto signFreshSpec)) signFreshUptoCard

/-- THE SECOND FORM's CARD OF 'syllogismlaw01.SignKeeps'. -/
def signKeepsUptoCard : Claim7 := { stood := { row := signKeepsUptoRow, standIns := [], harness := (true, "4b294c5e8aa96ff3b63d5e68f6ad2d7ad5ef3336d7499e9e8b27f29ce9ca0edd"), looks := false }, kinds := [], alts := [], laidByText := true, laidKinds := [.data, .data, .data, .data], laidTests := true, laidLooks := .later }
def SignKeepsUptoCardSaid : Prop := Claim7.holds Tryd.pinned (.plain (OpenSpec.upto signKeepsSpec)) signKeepsUptoCard
end Rows
end Go.Proofs.YtmcdnjhdmifpeaaDoor
