/-
  NARROWER THAN 'FOR EVERY INPUT', by the rows' own cells (each row's printed sentence says how): PrecChecks: laid · PrecMakes: loops, laid.
  DERIVED. THE GIVEN ROWS OF THIS SEAT. 2 by the template 'for every input the law returns true; each argument reads behind the call as it read before'; 0 by the template 'total and deterministic' (their statements: YtfnncphkidhbpaaGreatDoorTotals.lean).
  GIVEN WITH THE SEED: the statements are not yours to turn. If you find one false, say at which input.
  Laid BY PROGRAM, IN A SANDBOX (cutbox-rows.mjs): the forced cells as the released guide's own fill.sh prints them over the translation 1bcd86db5f723ecb… (all of the seat's roots in one cut). By AI agents, Wed Nov 11 2026. No macro, syntax, notation, axiom, sorry.
-/
import Derived.Test.YtfnncphkidhbpaaGreatDoorChecked
import GoSem.Claim
import GoSem.ClaimJoined
import GoSem.ClaimMapViews
import Derived.JoinedTies
import Derived.KernelRfl
namespace Go.Proofs.YtfnncphkidhbpaaGreatDoor
/- THE CELL 'sum', in the pinned program and in every row, IS THE sha256 OF THE DUMP (.gsa) THAT YtfnncphkidhbpaaGreatDoorProg.lean LOADS. Nothing in Lean hashes anything: it is a label: what it is worth is what the hold of that sum in a sandbox is worth. -/
noncomputable def Tryz.pinned : Pinned := { name := "ytfnncphkidhbpaagreatdoor", sum := "1bcd86db5f723ecb86837d1f78a9e137a4b8c30e7720473844aadf1e1fcab469", checked := Tryz.checked }
namespace Rows
def none {H : Type} : Left H := { results := [], args := [] }

/- WHAT THE LISTED PACKAGE-LEVEL VARIABLES READ AS WHEN THE CALL BEGINS. Each datum BY PROGRAM (the guide's laid-datum.mjs) off the statement by which the dump's own 'gosem.cut.vars' lays the variable. In a bare row this is a premise. The card (YtfnncphkidhbpaaGreatDoorCards.lean) ties it to the program's text. -/
def laid_syllogism_sign_truth {H : Type} : DataW H := .agg [.lit (.string [36, 116, 114, 117, 101]), .lit (.int .i64 0), .lit (.bool true)]

/-- 'syllogismlaw07.PrecChecks': WHATEVER THE INPUT: true; the input reads as it did. -/
def precChecksSpec : ChangeSpec := { name := "precChecks", fn := fun _ => fun
  | [d1, d2] => { results := [.lit (.bool true)], args := [d1, d2] }
  | _ => none }
def precChecksRow : OpenClaim := { program := "ytfnncphkidhbpaagreatdoor", sum := "1bcd86db5f723ecb86837d1f78a9e137a4b8c30e7720473844aadf1e1fcab469", func := "syllogism/syllogismlaw07.PrecChecks", spec := "precChecks", unfollowed := true, recurses := true, named := ["syllogism/sign.truth"], plainKeys := false, apart := false, laid := [("syllogism/sign.truth", laid_syllogism_sign_truth)] }
def PrecChecksSaid : Prop := precChecksRow.holds Tryz.pinned (OpenSpec.ofChange precChecksSpec)

/-- ITS FALSE NEIGHBOUR: 'it returns false'. Refute it at one input. -/
def precChecksWrong : ChangeSpec := { name := "precChecks", fn := fun _ => fun
  | [d1, d2] => { results := [.lit (.bool false)], args := [d1, d2] }
  | _ => none }
def PrecChecksWrongFalsely : Prop := precChecksRow.holds Tryz.pinned (OpenSpec.ofChange precChecksWrong)

/-- 'syllogismlaw07.PrecMakes': WHATEVER THE INPUT: true; the input reads as it did. -/
def precMakesSpec : ChangeSpec := { name := "precMakes", fn := fun _ => fun
  | [d1, d2, d3] => { results := [.lit (.bool true)], args := [d1, d2, d3] }
  | _ => none }
def precMakesRow : OpenClaim := { program := "ytfnncphkidhbpaagreatdoor", sum := "1bcd86db5f723ecb86837d1f78a9e137a4b8c30e7720473844aadf1e1fcab469", func := "syllogism/syllogismlaw07.PrecMakes", spec := "precMakes", unfollowed := true, recurses := true, named := ["syllogism/sign.truth"], loops := true, plainKeys := false, apart := false, laid := [("syllogism/sign.truth", laid_syllogism_sign_truth)] }
def PrecMakesSaid : Prop := precMakesRow.holds Tryz.pinned (OpenSpec.ofChange precMakesSpec)

/-- ITS FALSE NEIGHBOUR: 'it returns false'. Refute it at one input. -/
def precMakesWrong : ChangeSpec := { name := "precMakes", fn := fun _ => fun
  | [d1, d2, d3] => { results := [.lit (.bool false)], args := [d1, d2, d3] }
  | _ => none }
def PrecMakesWrongFalsely : Prop := precMakesRow.holds Tryz.pinned (OpenSpec.ofChange precMakesWrong)

/- THE SECOND FORM. 'bulk': how many values and letters a reading holds, each counted each time it is reached (what is shared counts as often as it is met; a slice's spare places count too). A statement '..UptoSaid' is the law's where the arguments, and the package variables that the reading takes, are together of bulk at most 1048576: NARROWER than '..Said'. Prove '..Said' where nothing that the law and all that it calls make is longer than what came in: it says more and counts as full. Else prove '..UptoSaid'. A law counts once. -/
mutual
def uptoBulk {H : Type} : DataW H → Nat
  | .lit (.string bytes) => bytes.length + 1
  | .lit _ => 1
  | .nil => 1
  | .ptr d => uptoBulk d + 1
  | .slice elems spare => uptoBulkAll elems + uptoBulkAll spare + 1
  | .agg parts => uptoBulkAll parts + 1
  | .iface _ d => uptoBulk d + 1
  | .map entries => uptoBulkEntries entries + 1
  | .held _ => 1
def uptoBulkAll {H : Type} : List (DataW H) → Nat
  | [] => 0
  | d :: r => uptoBulk d + uptoBulkAll r
def uptoBulkEntries {H : Type} : List (Lit × DataW H) → Nat
  | [] => 0
  | x :: r => uptoBulkEntry x + uptoBulkEntries r
def uptoBulkEntry {H : Type} : Lit × DataW H → Nat
  | (.string bytes, d) => bytes.length + uptoBulk d + 1
  | (_, d) => uptoBulk d + 1
 end
def uptoSmall : (H : Type) → List (DataW H) → Bool := fun _ ds => decide (uptoBulkAll ds ≤ 1048576)
def OpenSpec.upto (s : _root_.Go.ChangeSpec) : _root_.Go.OpenSpec := { _root_.Go.OpenSpec.ofChange s with cond := some uptoSmall }

/-- 'syllogismlaw07.PrecChecks', WHERE WHAT IT READS IS OF BULK AT MOST 1048576: true; the input reads as it did. -/
def precChecksUptoRow : OpenClaim := { program := "ytfnncphkidhbpaagreatdoor", sum := "1bcd86db5f723ecb86837d1f78a9e137a4b8c30e7720473844aadf1e1fcab469", func := "syllogism/syllogismlaw07.PrecChecks", spec := "precChecks", unfollowed := true, recurses := true, named := ["syllogism/sign.truth"], plainKeys := false, apart := false, laid := [("syllogism/sign.truth", laid_syllogism_sign_truth)], narrowed := true }
def PrecChecksUptoSaid : Prop := precChecksUptoRow.holds Tryz.pinned (OpenSpec.upto precChecksSpec)

/-- 'syllogismlaw07.PrecMakes', WHERE WHAT IT READS IS OF BULK AT MOST 1048576: true; the input reads as it did. -/
def precMakesUptoRow : OpenClaim := { program := "ytfnncphkidhbpaagreatdoor", sum := "1bcd86db5f723ecb86837d1f78a9e137a4b8c30e7720473844aadf1e1fcab469", func := "syllogism/syllogismlaw07.PrecMakes", spec := "precMakes", unfollowed := true, recurses := true, named := ["syllogism/sign.truth"], loops := true, plainKeys := false, apart := false, laid := [("syllogism/sign.truth", laid_syllogism_sign_truth)], narrowed := true }
def PrecMakesUptoSaid : Prop := precMakesUptoRow.holds Tryz.pinned (OpenSpec.upto precMakesSpec)

end Rows
end Go.Proofs.YtfnncphkidhbpaaGreatDoor
